/- Texts of ours, laid one behind the other: TTwC, TTwD, TTwE, TTwJ, TGenA, TTreA, TPathM, TTreM, TUnR, TSumM. -/
import Derived.Test.YtbkimmbfepjodaaDoorPfT12
import Derived.Deep.RegionWith
import Derived.Deep.Cut
import Derived.Deep.RegionHeld3
import Derived.Lib.LazyBuf
import Derived.PlainAid
import Derived.OwnWalk
import Derived.Deep.DrawnRows
set_option linter.unusedVariables false
set_option linter.unusedSimpArgs false
/- Over the twin: the program's own CutUnits. -/
namespace Go.Proofs.YtbkimmbfepjodaaDoorT
set_option maxRecDepth 100000
open Go.RowKit
open Go.Proofs.YtbkimmbfepjodaaDoor (cellV RcReg wp_take wp_shut)
attribute [local go_sem ↓] Go.wp_at_zero Go.wp_at_succ

/-- How many values a channel holds. -/
def chLeft (c : Nat) (w : World) : Nat := match w.heap[c]? with
  | some (.chan _ b _ _ _ _) => b.size
  | _ => 0
theorem chLeft_is {c cap m r : Nat} {b : Array Value} {cl tm : Bool} {w : World} (h : w.heap[c]? = some (.chan cap b cl m r tm)) : chLeft c w = b.size := by unfold chLeft; rw [h]
theorem cellsK_more {k n i : Nat} : ∀ {f : Nat}, n ≤ i + 4 * f → i < n → ∃ f', cellsK k n f i = cellV (i : Nat) (min (i + 4) n : Nat) (unitAt k i : Nat) (placeIn k i : Nat) :: cellsK k n f' (i + 4) ∧ n ≤ i + 4 + 4 * f'
  | 0, h, h' => absurd h (by omega)
  | f + 1, h, h' => ⟨f, by rw [cellsK, if_pos h'], by omega⟩
theorem cellsK_none {k n i : Nat} (h : n ≤ i) : ∀ f : Nat, cellsK k n f i = []
  | 0 => rfl
  | f + 1 => by rw [cellsK, if_neg (by omega)]
theorem chan_alloc {w : World} {c : Nat} {o o' : Obj} (h : w.heap[c]? = some o) : (w.alloc o').heap[c]? = some o := by
  have hc : c < w.heap.size := (Array.getElem?_eq_some_iff.1 h).1
  exact (((Below.refl w.heap.size w).alloc (Nat.le_refl _) o').block c hc).trans h
theorem chan_lt {w : World} {c : Nat} {o : Obj} (h : w.heap[c]? = some o) : c < w.heap.size := (Array.getElem?_eq_some_iff.1 h).1
/-- A cell's four numbers. -/
def C4 (w : World) (g : Nat) (a b u p : Nat) : Prop := w.cell? ⟨g, 0, none⟩ = some (.int .i64 (a : Nat)) ∧ w.cell? ⟨g, 1, none⟩ = some (.int .i64 (b : Nat)) ∧ w.cell? ⟨g, 2, none⟩ = some (.int .i64 (u : Nat)) ∧ w.cell? ⟨g, 3, none⟩ = some (.int .i64 (p : Nat))
theorem C4.new (w : World) (a b u p : Nat) (t : TypeId) : C4 (w.alloc (.cells #[.int .i64 (a : Nat), .int .i64 (b : Nat), .int .i64 (u : Nat), .int .i64 (p : Nat)] t)) w.heap.size a b u p := by
  have h := wcells_new w #[.int .i64 (a : Nat), .int .i64 (b : Nat), .int .i64 (u : Nat), .int .i64 (p : Nat)] t
  exact ⟨(h.2 0 _ rfl).1, (h.2 1 _ rfl).1, (h.2 2 _ rfl).1, (h.2 3 _ rfl).1⟩
end Go.Proofs.YtbkimmbfepjodaaDoorT
/- Over the twin: the program's own JoinUnits. -/
namespace Go.Proofs.YtbkimmbfepjodaaDoorT
set_option maxRecDepth 100000
open Go.RowKit
open Go.Proofs.YtbkimmbfepjodaaDoor (cellV RcReg wp_take wp_shut)
attribute [local go_sem ↓] Go.wp_at_zero Go.wp_at_succ

section
variable {P : Program}
/-- 'copy(dst, s)', s a string: as many of its bytes as there is room for go over. -/
theorem run_copy_cut (w : World) (dT sT ty elem : TypeId) (b o dLen dCap : Nat) (t : ByteArray)
    (hu : P.underlying dT = some (.slice elem)) (hz : ∀ w, (Go.sizeOf elem).run P w = .ok 1 w)
    (hc : ∀ j, j < min t.size dLen → (w.cell? ⟨b, o + j, none⟩).isSome = true) (hf : ∀ j, j < min t.size dLen → w.frozen? ⟨b, o + j, none⟩ = false) :
    (Builtin.copy_ #[dT, sT] ty #[.slice (some ⟨b, o, none⟩) dLen dCap, .string t]).run P w = .ok (goInt (min t.size dLen : Nat)) (w.setCells b o ((t.data.toList.map fun x => Value.int .u8 (x.toNat : Int)).take (min t.size dLen))) := by
  have hl : ((t.data.toList.map fun x => Value.int .u8 (x.toNat : Int)).take (min t.size dLen)).length = min t.size dLen := by rw [List.length_take, List.length_map, ← Lib.size_eq]; omega
  have hst := run_storeCells_cells (P := P) b o ((t.data.toList.map fun x => Value.int .u8 (x.toNat : Int)).take (min t.size dLen)) 0 w (by rw [hl]; simpa using hc) (by rw [hl]; simpa using hf) (by
    intro v hv
    obtain ⟨x, _, rfl⟩ := List.mem_map.1 (List.mem_of_mem_take hv)
    rfl)
  have e : Nat.min t.size dLen = min t.size dLen := rfl
  simp [Builtin.copy_, run_underlying hu, Builtin.lenOf, Builtin.firstCells, hz, e]
  rw [show (List.take (min t.size dLen) (List.map (fun x : UInt8 => Value.int IntKind.u8 (x.toNat : Int)) t.data.toList)) = ((t.data.toList.map fun x => Value.int .u8 (x.toNat : Int)).take (min t.size dLen)) from rfl, hst]
  rfl
theorem step_copy_cut {ops : Array Oper} {o : Oper} {a : Act} {w : World} {K : Act → World → Prop} {Q : Exit → Act → World → Prop} {E : Prop}
    (hg : o.guard = none) (d x : Operand) (dT sT : TypeId) (hop : o.op = Op.call { callee := Callee.builtin Builtin.copy, args := #[d, x], argTypes := #[dT, sT] })
    (elem : TypeId) (hu : P.underlying dT = some (.slice elem)) (hz : ∀ w, (Go.sizeOf elem).run P w = .ok 1 w)
    (b off dLen dCap : Nat) (hd : a.eval d = .slice (some ⟨b, off, none⟩) dLen dCap) (t : ByteArray) (hx : a.eval x = .string t)
    (hc : ∀ j, j < min t.size dLen → (w.cell? ⟨b, off + j, none⟩).isSome = true) (hf : ∀ j, j < min t.size dLen → w.frozen? ⟨b, off + j, none⟩ = false)
    (hK : K (a.put o.dst (goInt (min t.size dLen : Nat))) (w.setCells b off ((t.data.toList.map fun x => Value.int .u8 (x.toNat : Int)).take (min t.size dLen)))) :
    if Region.wanted o (yielded ops a.tmps) = true then Oper.wp P o a w K Q else E := by
  have hw : Region.wanted o (yielded ops a.tmps) = true := by simp [Region.wanted, hg]
  rw [if_pos hw]
  have hrun := run_copy_cut (P := P) w dT sT o.type elem b off dLen dCap t hu hz hc hf
  unfold Oper.wp
  simp only [Nat.min_def] at hrun hK
  simp [execOp, hop, resolve, invoke, builtin, hd, hx, hrun, Result.andThen]
  exact hK
end
theorem heap_setCells {b c : Nat} (h : c ≠ b) : ∀ (vs : List Value) (o : Nat) (w : World), (w.setCells b o vs).heap[c]? = w.heap[c]?
  | [], _, _ => rfl
  | v :: r, o, w => by rw [World.setCells, heap_setCells h r]; exact Below.heap_setCell _ _ _ _ h
theorem size_setCells {b : Nat} : ∀ (vs : List Value) (o : Nat) (w : World), (w.setCells b o vs).heap.size = w.heap.size
  | [], _, _ => rfl
  | v :: r, o, w => by rw [World.setCells, size_setCells r]; simp [World.setCell]
theorem C4.sets {w : World} {g a b u p : Nat} (h : C4 w g a b u p) (c o : Nat) (vs : List Value) (hq : g ≠ c) : C4 (w.setCells c o vs) g a b u p := by
  have e := heap_setCells hq vs o w
  unfold C4 World.cell? at h ⊢
  simp only [e]
  exact h
/-- The bytes of a group, the first i of them filled. -/
def GRow (k : Nat) (U : List ByteArray) (w : World) (g n i : Nat) : Prop := g < w.heap.size ∧ ∀ d, d < n → w.cell? ⟨g, d, none⟩ = some (.int .u8 ((if d < i then joinAt k U d else 0 : UInt8).toNat : Int)) ∧ w.frozen? ⟨g, d, none⟩ = false
theorem GRow.below {k : Nat} {U : List ByteArray} {w w' : World} {g n i : Nat} (h : GRow k U w g n i) (hb : Below w.heap.size w w') : GRow k U w' g n i :=
  ⟨Nat.lt_of_lt_of_le h.1 hb.size, fun d hd => ⟨(hb.cell (p := ⟨g, d, none⟩) h.1).trans (h.2 d hd).1, (hb.frozen (p := ⟨g, d, none⟩) h.1).trans (h.2 d hd).2⟩⟩
theorem GRow.aside {k : Nat} {U : List ByteArray} {w w' : World} {g n i : Nat} (h : GRow k U w g n i) (hs : w'.heap.size = w.heap.size) (e : w'.heap[g]? = w.heap[g]?) : GRow k U w' g n i := by
  refine ⟨by rw [hs]; exact h.1, fun d hd => ?_⟩
  have q := h.2 d hd
  simp only [World.cell?, World.frozen?, e] at q ⊢
  exact q
theorem GRow.made {k : Nat} {U : List ByteArray} {w : World} {g n : Nat} (h : WCells w g (madeCells #[Value.int .u8 0] n).toList) : GRow k U w g n 0 := by
  refine ⟨h.1, fun d hd => ?_⟩
  have q := h.2 d (.int .u8 0) (by rw [toList_madeCells_one]; simp [hd])
  exact ⟨by rw [q.1]; simp, q.2⟩
theorem get_tail {x : ByteArray} {q d : Nat} (h : q + d < x.size) : (x.extract q x.size).data.toList.getD d 0 = x.data.toList.getD (q + d) 0 := by
  have h' : q + d < x.data.size := h
  have h2 : d < (x.extract q x.size).data.size := by
    show d < (x.extract q x.size).size
    rw [ByteArray.size_extract]; omega
  rw [List.getD_eq_getElem?_getD, List.getD_eq_getElem?_getD, Array.getElem?_toList, Array.getElem?_toList, Array.getElem?_eq_getElem h', Array.getElem?_eq_getElem h2]
  simp [ByteArray.data_extract]
theorem GRow.copy {k : Nat} (hk : k = 2 ∨ k = 3 ∨ k = 4) {U : List ByteArray} {w : World} {g n i j : Nat} (h : GRow k U w g n i) (h4 : i % 4 = 0) (hij : i ≤ j) (hj4 : j ≤ i + 4) (hjn : j ≤ n) {x : ByteArray} (hx : x = U.getD (unitAt k i) ⟨#[]⟩) {q m : Nat} (hq : q = min (placeIn k i) x.size) (hm : m = min (x.extract q x.size).size (j - i)) :
    GRow k U (w.setCells g i (((x.extract q x.size).data.toList.map fun c => Value.int .u8 (c.toNat : Int)).take m)) g n j := by
  have hes : (x.extract q x.size).size = x.size - q := by rw [ByteArray.size_extract]; omega
  have hl : (((x.extract q x.size).data.toList.map fun c => Value.int .u8 (c.toNat : Int)).take m).length = m := by rw [List.length_take, List.length_map, ← Lib.size_eq]; omega
  refine ⟨by rw [size_setCells]; exact h.1, fun d hd => ⟨?_, by rw [World.frozen?_setCells]; exact (h.2 d hd).2⟩⟩
  have hjoin : ∀ e, e < 4 → joinAt k U (i + e) = x.data.toList.getD (placeIn k i + e) 0 := fun e he => by unfold joinAt; rw [unit_same hk h4 he, place_same hk h4 he, hx]
  by_cases hin : i ≤ d ∧ d < i + m
  · obtain ⟨e, rfl⟩ := Nat.exists_eq_add_of_le hin.1
    have he : e < m := by omega
    have q1 := World.cell?_setCells_in g (((x.extract q x.size).data.toList.map fun c => Value.int .u8 (c.toNat : Int)).take m) i w (fun a ha => by rw [(h.2 (i + a) (by omega)).1]; rfl) e (by rw [hl]; exact he)
    rw [q1, if_pos (by omega), hjoin e (by omega), List.getElem_take, List.getElem_map]
    have hqp : q = placeIn k i := by omega
    have q2 := get_tail (x := x) (q := q) (d := e) (by omega)
    rw [← hqp, ← q2]
    have hlt : e < (x.extract q x.size).data.toList.length := by rw [← Lib.size_eq]; omega
    rw [List.getD_eq_getElem?_getD, List.getElem?_eq_getElem hlt]
    rfl
  · rw [World.cell?_setCells_out _ _ _ _ _ (fun _ _ => by rw [hl]; show d < i ∨ i + m ≤ d; omega), (h.2 d hd).1]
    by_cases c1 : d < i
    · rw [if_pos c1, if_pos (by omega)]
    · rw [if_neg c1]
      by_cases c2 : d < j
      · rw [if_pos c2]
        obtain ⟨e, rfl⟩ := Nat.exists_eq_add_of_le (show i ≤ d by omega)
        rw [hjoin e (by omega), get_none x _ (by omega)]
      · rw [if_neg c2]
theorem GRow.text {k : Nat} {U : List ByteArray} {w : World} {g n i : Nat} (h : GRow k U w g n i) (hi : n ≤ i) : (convert 58 9 (.slice (some ⟨g, 0, none⟩) n n)).run Tw.prog w = .ok (.string ⟨(joinL k U n).toArray⟩) w := by
  have q := run_convert_bytes_back (P := Tw.prog) w 58 9 5 ⟨g, 0, none⟩ n (joinL k U n) Tw.underlying58 Tw.underlying5 Tw.underlying9 (fun j hj => by
    rw [joinL_len] at hj
    have := (h.2 j hj).1
    rw [if_pos (by omega)] at this
    have hadd : (⟨g, 0, none⟩ : Addr).add j = ⟨g, j, none⟩ := by unfold Addr.add; split <;> simp_all
    rw [hadd, this]
    simp [joinL])
  rw [joinL_len] at q
  exact q
end Go.Proofs.YtbkimmbfepjodaaDoorT
/- Over the twin: the walk of the program's own JoinUnits. -/
namespace Go.Proofs.YtbkimmbfepjodaaDoorT
set_option maxRecDepth 100000
open Go.RowKit
open Go.Proofs.YtbkimmbfepjodaaDoor (cellV RcReg wp_take wp_shut)
attribute [local go_sem ↓] Go.wp_at_zero Go.wp_at_succ

set_option maxRecDepth 100000 in
set_option maxHeartbeats 8000000 in
theorem implJoin_walk (s : Int) (U : List ByteArray) (N k b2 o2 cap2 : Nat) (w : World) (hok : schOk s = true) (hk : schK s = k) (hul : U.length = k) (hN : N ≤ groupN s) (hUs : ∀ j, j < k → (U.getD j ⟨#[]⟩).size ≤ 1048576) (hU : b2 < w.heap.size ∧ ∀ j, j < k → w.cell? ⟨b2, o2 + j, none⟩ = some (.string (U.getD j ⟨#[]⟩))) :
    Calls Tw.prog 16 #[.int .i64 s, .slice (some ⟨b2, o2, none⟩) k cap2, .int .i64 (N : Int)] w fun e w' => JoinPost (joinX s U (N : Int)) w e w' := by
  obtain ⟨i0, hi0, hz0, hz1, hz2⟩ := info_parts Tw.info5
  obtain ⟨c1, c2, _, _⟩ := sch_bounds hok
  have HS := Shut.mk (fun W => implSch s W)
  unfold SchPost at HS
  have HG := Shut.mk (fun W => implSize s W)
  have hg32 := groupN_bounds s
  have e0 : joinX s U (N : Int) = (⟨(joinL (schK s) U N).toArray⟩, true) := by unfold joinX; rw [if_pos ⟨hok, by rw [hul, hk], by omega, by omega⟩]; rfl
  have HCE := Shut.mk (fun W => twCells s N (by omega) hok W)
  have hk3 : schK s = 2 ∨ schK s = 3 ∨ schK s = 4 := by omega
  have HU := Shut.mk hU
  have HUS := Shut.mk hUs
  rw [hok] at HS
  unfold JoinPost
  rw [e0]
  rw [hk] at HS HCE c1 c2 hk3 ⊢
  have hkk : ((k : Int) != (k : Int)) = false := by simp
  have n0 : ¬ (N : Int) < 0 := by omega
  have n1 : ¬ (groupN s : Int) < (N : Int) := by omega
  have n32 : N ≤ 32 := by omega
  clear hok hk hul hU e0 hUs
  generalize schM s = m at *
  generalize groupN s = S at *
  go_enter Tw.func16, Tw.ntmps16
  go_wp2_with fail
  refine (HS.out _).mono ?_
  rintro e w1 ⟨rfl, rfl⟩
  go_wp2_with fail
  refine (HG.out _).mono ?_
  rintro e w2 ⟨rfl, rfl⟩
  go_wp2_with (at_make; refine wpList_make_full _ rfl _ _ 58 rfl w2.heap.size 5 i0 _ 1 Tw.underlying58 hi0 hz0 hz1 .i64 .i64 _ _ N rfl rfl (by omega) (by omega) ?b2 ?b3 ?b4 ?_)
  case b2 => rw [hz2]; omega
  case b3 => unfold maxLen; omega
  case b4 => omega
  intro wm hownm hgrm
  have hbm : Below w2.heap.size w2 wm := (Below.refl _ _).grown hgrm (Nat.le_refl _) (fun j hj => by simp at hj)
  have hrow : GRow k U wm w2.heap.size N 0 := GRow.made (own_wcells hownm)
  have HROW := Shut.mk hrow
  have HBM := Shut.mk hbm
  clear hownm hgrm hrow hbm
  go_wp2_with fail
  refine (HCE.out _).mono ?_
  rintro e w4 ⟨rfl, mm, hw4⟩
  have HC4 : Shut (w4.heap[wm.heap.size]? = some (.chan 32 (cellsK k N 9 0).toArray true mm 0 false)) := ⟨by rw [hw4]; exact heap_alloc_new _ _⟩
  have HROW4 : Shut (GRow k U w4 w2.heap.size N 0) := ⟨by rw [hw4]; exact HROW.out.below ((Below.refl _ _).alloc (Nat.le_refl _) _)⟩
  have HBM4 : Shut (Below w2.heap.size w2 w4) := ⟨by rw [hw4]; exact HBM.out.alloc HBM.out.size _⟩
  have HGC : Shut (w2.heap.size < wm.heap.size) := ⟨HROW.out.1⟩
  generalize wm.heap.size = gc at *
  clear hw4 HROW HBM HCE
  go_upto_region 6 with fail
  go_loopw [] (fun wr => ∃ (i f r : Nat), i % 4 = 0 ∧ N ≤ i + 4 * f ∧ Shut (wr.heap[gc]? = some (.chan 32 (cellsK k N f i).toArray true mm r false)) ∧ Shut (GRow k U wr w2.heap.size N (min i N)) ∧ Shut (Below w2.heap.size w2 wr)) (fun wr => chLeft gc wr)
  case atStart => exact ⟨0, 9, 0, rfl, by omega, HC4, by rw [Nat.zero_min]; exact HROW4, HBM4⟩
  case round =>
    clear HC4 HROW4 HBM4
    obtain ⟨i, f, r, hi4, hfu, hch, hrow, hbo⟩ := hrel
    obtain ⟨wo, rfl⟩ : ∃ wo, wo = wr := ⟨_, rfl⟩
    refine wp_seq ?_
    have hne : w2.heap.size ≠ gc := Nat.ne_of_lt HGC.out
    have hlc := chan_lt hch.out
    by_cases hlt : i < N
    · obtain ⟨f', hcs, hfu'⟩ := cellsK_more (k := k) hfu hlt
      have hchv := hch.out
      have hleft := chLeft_is hch.out
      rw [hcs] at hchv hleft
      rw [Nat.min_eq_left (show i ≤ N by omega)] at hrow
      refine wp_take (slot := 42) (pair := 43) (flag := 44) (c := gc) (twRc (by kernel_rfl) (by kernel_rfl) (by kernel_rfl)) (by rfl) (by simp) hchv ?_
      obtain ⟨wt, hwt⟩ : ∃ wt, wt = wo.setChan gc 32 (cellsK k N f' (i + 4)).toArray true mm (r + 1) false := ⟨_, rfl⟩
      rw [← hwt]
      have HCT : Shut (wt.heap[gc]? = some (.chan 32 (cellsK k N f' (i + 4)).toArray true mm (r + 1) false)) := ⟨by rw [hwt]; exact Go.Conc.heap_setChan _ _ _ _ _ _ _ _ hlc⟩
      have HBT : Shut (Below w2.heap.size w2 wt) := ⟨by rw [hwt]; exact Go.Conc.below_setChan hbo.out (Nat.le_of_lt HGC.out) _ _ _ _ _ _⟩
      have HRT : Shut (GRow k U wt w2.heap.size N i) := ⟨by rw [hwt]; exact hrow.out.aside (Go.Conc.size_setChan _ _ _ _ _ _ _ _) (Go.Proofs.YtbkimmbfepjodaaDoor.set_other hne)⟩
      have HLE : Shut (chLeft gc wo = (cellsK k N f' (i + 4)).length + 1) := ⟨by rw [hleft]; simp⟩
      clear hwt hch hrow hbo hchv hleft hcs
      have hul := unit_lt (show 0 < k by omega) i
      obtain ⟨j, hj⟩ : ∃ j, j = min (i + 4) N := ⟨_, rfl⟩
      rw [← hj]
      have hij : i < j := by omega
      have hjn : j ≤ N := by omega
      have hj4 : j ≤ i + 4 := by omega
      obtain ⟨x, hx⟩ : ∃ x, x = U.getD (unitAt k i) ⟨#[]⟩ := ⟨_, rfl⟩
      have hxs : x.size ≤ 1048576 := by rw [hx]; exact HUS.out _ hul
      have HGR : Shut (∀ W : World, GRow k U W w2.heap.size N i → ∀ q mq, q = min (placeIn k i) x.size → mq = min (x.extract q x.size).size (j - i) → GRow k U (W.setCells w2.heap.size i (((x.extract q x.size).data.toList.map fun c => Value.int .u8 (c.toNat : Int)).take mq)) w2.heap.size N j) := ⟨fun W hW q mq hq hmq => hW.copy hk3 hi4 (by omega) hj4 hjn hx hq hmq⟩
      have HX := Shut.mk (HU.out.2 (unitAt k i) hul)
      rw [← hx] at HX
      have hpl : placeIn k i ≤ 40 := by
        have h1 : i % (k * 8) < k * 8 := Nat.mod_lt _ (by omega)
        have h2 : i % (k * 8) / 4 / k ≤ 8 := Nat.le_trans (Nat.div_le_self _ _) (by omega)
        unfold placeIn; omega
      clear hx
      generalize unitAt k i = u at *
      generalize placeIn k i = pl at *
      have u0 : (0 : Int) ≤ (u : Int) := by omega
      have u1 : (u : Int) < (k : Int) := by omega
      have i0' : (0 : Int) ≤ (i : Int) := by omega
      have ij' : (i : Int) ≤ (j : Int) := by omega
      have jn' : (j : Int) ≤ (N : Int) := by omega
      have HJ := Shut.mk hj
      have HFB : Shut (N ≤ i + 4 + 4 * f') := ⟨hfu'⟩
      clear hj hfu' hfu hlt hi0 hz0 hz1 hz2
      have hgl : w2.heap.size < wt.heap.size := HRT.out.1
      have HC4 := Shut.mk (C4.new wt i j u pl 69)
      unfold cellV
      go_upto_region 8 with fail
      obtain ⟨wa, hwa⟩ : ∃ wa, wa = wt.alloc (.cells #[.int .i64 (i : Nat), .int .i64 (j : Nat), .int .i64 (u : Nat), .int .i64 (pl : Nat)] 69) := ⟨_, rfl⟩
      rw [← hwa] at HC4 ⊢
      have HRA : Shut (GRow k U wa w2.heap.size N i) := ⟨by rw [hwa]; exact HRT.out.below ((Below.refl _ _).alloc (Nat.le_refl _) _)⟩
      have HBA : Shut (Below w2.heap.size w2 wa) := ⟨by rw [hwa]; exact (HBT.out.alloc HBT.out.size _)⟩
      have HCA : Shut (wa.heap[gc]? = some (.chan 32 (cellsK k N f' (i + 4)).toArray true mm (r + 1) false)) := ⟨by rw [hwa]; exact chan_alloc HCT.out⟩
      clear hwa HRT HBT HCT
      generalize wt.heap.size = gl at *
      have HGL : Shut (gl ≠ w2.heap.size) := ⟨by omega⟩
      have yU := (HBA.out.cell (p := ⟨b2, o2 + u, none⟩) HU.out.1).trans HX.out
      obtain ⟨y0, y1, y2, y3⟩ := HC4.out
      clear HX
      go_wp2_with fail
      have HC := Shut.mk (fun (j' : Nat) (hj' : j' < N) => HRA.out.2 j' hj')
      have KC : ∀ T : ByteArray, ∀ j', j' < min T.size (j - i) → (wa.drew.cell? ⟨w2.heap.size, i + j', none⟩).isSome = true := fun T j' hj' => by rw [show wa.drew.cell? ⟨w2.heap.size, i + j', none⟩ = wa.cell? ⟨w2.heap.size, i + j', none⟩ from rfl, (HC.out (i + j') (by omega)).1]; rfl
      have KF : ∀ T : ByteArray, ∀ j', j' < min T.size (j - i) → wa.drew.frozen? ⟨w2.heap.size, i + j', none⟩ = false := fun T j' hj' => (HC.out (i + j') (by omega)).2
      have HKC := Shut.mk KC
      have HKF := Shut.mk KF
      have HFIN : Shut (∀ q mq, q = min pl x.size → mq = min (x.extract q x.size).size (j - i) → ∀ W, W = wa.drew.setCells w2.heap.size i (((x.extract q x.size).data.toList.map fun c => Value.int .u8 (c.toNat : Int)).take mq) → W.heap[gc]? = some (.chan 32 (cellsK k N f' (i + 4)).toArray true mm (r + 1) false) ∧ GRow k U W w2.heap.size N (min (i + 4) N) ∧ Below w2.heap.size w2 W) := ⟨fun q mq hq hmq W hW => by
        subst hW
        refine ⟨(heap_setCells (fun e => hne e.symm) _ _ _).trans HCA.out, ?_, below_setCells (Nat.le_refl _) _ _ _ (Below.drew HBA.out)⟩
        rw [← HJ.out]
        exact HGR.out wa.drew (HRA.out.aside rfl rfl) q mq hq hmq⟩
      clear HC KC KF HGR HRA HBA HCA
      obtain ⟨q, hqn⟩ : ∃ q, q = min pl x.size := ⟨_, rfl⟩
      have a2 : (q : Int) ≤ (x.size : Int) := by omega
      have a3 : (0 : Int) ≤ (q : Int) := by omega
      have a4 : min (pl : Int) (x.size : Int) = (q : Int) := by omega
      have HQ := Shut.mk hqn
      clear hqn
      go_region_held3 (fun w' => w'.cell? ⟨gl, 0, none⟩ = some (.int .i64 (i : Nat)) ∧ w'.cell? ⟨gl, 1, none⟩ = some (.int .i64 (j : Nat)) ∧ w'.cell? ⟨gl, 2, none⟩ = some (.int .i64 (u : Nat)) ∧ w'.cell? ⟨gl, 3, none⟩ = some (.int .i64 (pl : Nat)))
        (first | assumption | (exact HC4.out) | (exact C4.sets (w := wa.drew) HC4.out _ _ _ HGL.out))
        (first | (refine step_copy_cut (by rfl) _ _ _ _ (by rfl) 5 Tw.underlying58 (by simp) w2.heap.size i (j - i) (N - i) (by first | rfl | (simp [Act.eval]; omega)) (x.extract q x.size) (by rfl) (HKC.out _) (HKF.out _) ?_))
      all_goals
        obtain ⟨F1, F2, F3⟩ := HFIN.out q _ HQ.out rfl _ rfl
        generalize wa.drew.setCells w2.heap.size i _ = W at F1 F2 F3 ⊢
        have G1 := Shut.mk F1
        have G2 := Shut.mk F2
        have G3 := Shut.mk F3
        clear F1 F2 F3
        go_wp2_with fail
        exact ⟨⟨i + 4, f', r + 1, by omega, HFB.out, G1, G2, G3⟩, by rw [chLeft_is G1.out, HLE.out]; simp⟩
    · have e0 : cellsK k N f i = [] := cellsK_none (by omega) f
      have hchv := hch.out
      rw [e0] at hchv
      rw [Nat.min_eq_right (show N ≤ i by omega)] at hrow
      refine wp_shut (slot := 42) (pair := 43) (flag := 44) (c := gc) (twRc (by kernel_rfl) (by kernel_rfl) (by kernel_rfl)) (by rfl) (by simp) hchv ?_
      have hcv := hrow.out.text (Nat.le_refl _)
      clear hrow hch hchv e0
      go_wp2_with fail
      go_ret2
      exact ⟨rfl, hbo.out⟩
end Go.Proofs.YtbkimmbfepjodaaDoorT
/- Over the twin: JoinUnits at every argument. -/
namespace Go.Proofs.YtbkimmbfepjodaaDoorT
set_option maxRecDepth 100000
open Go.RowKit
attribute [local go_sem ↓] Go.wp_at_zero Go.wp_at_succ

set_option maxHeartbeats 2000000 in
theorem implJoinUnits (w : World) (u : Value) (U : List ByteArray) (lo hi : Nat) (s n : Int) (hu : SSee w u U lo hi) (hf : UFit U) : Calls Tw.prog 16 #[.int .i64 s, u, .int .i64 n] w fun e w' => JoinPost (joinX s U n) w e w' := by
  obtain ⟨a2, cap2, rfl, hm2⟩ := hu
  have hlf : U.length ≤ 1048576 := hf.1
  have hUs : ∀ j, j < U.length → (U.getD j ⟨#[]⟩).size ≤ 1048576 := fun j hj => hf.2 _ (by simp [List.getD, hj])
  have HS := Shut.mk (fun W => implSch s W)
  unfold SchPost at HS
  cases h : schOk s with
  | false =>
    unfold JoinPost
    rw [joinX_no (fun q => by rw [h] at q; cases q.1)]
    rw [h] at HS
    clear h hm2 hf hUs
    generalize schK s = k at *
    generalize schM s = m at *
    go_enter Tw.func16, Tw.ntmps16
    go_wp2_with fail
    refine (HS.out _).mono ?_
    rintro e w1 ⟨rfl, rfl⟩
    go_wp2_with fail
    go_ret2
    exact ⟨rfl, Below.refl _ _⟩
  | true =>
    obtain ⟨b1, b2, _, _⟩ := sch_bounds h
    by_cases hl : U.length = schK s
    · by_cases hn : 0 ≤ n ∧ n ≤ (groupN s : Int)
      · obtain ⟨b, off, rfl, lb, hc⟩ := units_cells hm2 (by omega)
        obtain ⟨N, rfl⟩ := Int.eq_ofNat_of_zero_le hn.1
        have hUs' : ∀ j, j < schK s → (U.getD j ⟨#[]⟩).size ≤ 1048576 := fun j hj => hUs j (by omega)
        have hc' : ∀ j, j < schK s → w.cell? ⟨b, off + j, none⟩ = some (.string (U.getD j ⟨#[]⟩)) := fun j hj => hc j (by omega)
        rw [hl]
        exact implJoin_walk s U N (schK s) b off cap2 w h rfl hl (by omega) hUs' ⟨lb, hc'⟩
      · unfold JoinPost
        rw [joinX_no (fun q => hn q.2.2)]
        have HG := Shut.mk (fun W => implSize s W)
        rw [h] at HS
        rw [hl]
        have hkk : ((schK s : Int) != (schK s : Int)) = false := by simp
        clear h hm2 hf hl hUs
        by_cases h0 : n < 0
        · clear hn
          generalize schK s = k at *
          generalize schM s = m at *
          generalize groupN s = S at *
          go_enter Tw.func16, Tw.ntmps16
          go_wp2_with fail
          refine (HS.out _).mono ?_
          rintro e w1 ⟨rfl, rfl⟩
          go_wp2_with fail
          go_ret2
          exact ⟨rfl, Below.refl _ _⟩
        · have h1 : (groupN s : Int) < n := by omega
          clear hn
          generalize schK s = k at *
          generalize schM s = m at *
          generalize groupN s = S at *
          go_enter Tw.func16, Tw.ntmps16
          go_wp2_with fail
          refine (HS.out _).mono ?_
          rintro e w1 ⟨rfl, rfl⟩
          go_wp2_with fail
          refine (HG.out _).mono ?_
          rintro e w2 ⟨rfl, rfl⟩
          go_wp2_with fail
          go_ret2
          exact ⟨rfl, Below.refl _ _⟩
    · unfold JoinPost
      rw [joinX_no (fun q => hl q.2.1)]
      have hne : ((U.length : Int) != (schK s : Int)) = true := by rw [bne_iff_ne]; omega
      rw [h] at HS
      clear h hm2 hf hl hUs
      generalize schK s = k at *
      generalize schM s = m at *
      go_enter Tw.func16, Tw.ntmps16
      go_wp2_with fail
      refine (HS.out _).mono ?_
      rintro e w1 ⟨rfl, rfl⟩
      go_wp2_with fail
      go_ret2
      exact ⟨rfl, Below.refl _ _⟩
end Go.Proofs.YtbkimmbfepjodaaDoorT
/- Rows of elements of which each one holds a row of its own, in memory: one that is read, one that may be written. Nothing of the program is read here. -/
namespace Go.Proofs.YtbkimmbfepjodaaDoorT
set_option maxRecDepth 100000
open Go.RowKit

/-- A kind of such elements: how one is laid into cells, where its own row lies, and what that row holds. -/
structure NK (R : Type) where
  enc : R → List Value
  sz : Nat
  len : ∀ r, (enc r).length = sz
  loc : R → Option Addr
  inn : R → List Value
def NK.cells {R : Type} (K : NK R) (rs : List R) : List Value := rs.flatMap K.enc
theorem NK.cells_len {R : Type} (K : NK R) (rs : List R) : (K.cells rs).length = rs.length * K.sz := flat_len K.len rs
theorem NK.cells_get {R : Type} (K : NK R) (rs : List R) (j : Nat) (h : j < rs.length) (i : Nat) (hi : i < K.sz) : (K.cells rs)[j * K.sz + i]? = (K.enc rs[j])[i]? := flat_get K.len rs j h i hi
/-- Such a row, as it is read. -/
def GR {R : Type} (K : NK R) (w : World) (a : Option Addr) (rs : List R) (lo hi : Nat) : Prop := RRow w a (K.cells rs) lo hi ∧ ∀ r ∈ rs, RRow w (K.loc r) (K.inn r) lo hi
/-- Such a row that may be written: each one's own row in a block of its own, all in a range. -/
structure GW {R : Type} (K : NK R) (w : World) (g : Nat) (rs : List R) (lo hi : Nat) : Prop where
  out : WCells w g (K.cells rs)
  glo : lo ≤ g
  ghi : g < hi
  rows : ∀ r ∈ rs, K.inn r = [] ∨ ∃ b, K.loc r = some ⟨b, 0, none⟩ ∧ lo ≤ b ∧ b < hi ∧ b ≠ g ∧ WCells w b (K.inn r)
  apart : rs.Pairwise fun r s => K.inn r ≠ [] → K.inn s ≠ [] → K.loc r ≠ K.loc s
theorem GW.gr {R : Type} {K : NK R} {w : World} {g : Nat} {rs : List R} {lo hi : Nat} (h : GW K w g rs lo hi) : GR K w (some ⟨g, 0, none⟩) rs lo hi :=
  ⟨RRow.of_wcells h.out h.glo h.ghi, fun r hr => by
    rcases h.rows r hr with e | ⟨b, e, h1, h2, _, h3⟩
    · rw [e]; intro hp; simp at hp
    · rw [e]; exact RRow.of_wcells h3 h1 h2⟩
theorem GW.turned {R : Type} {K : NK R} {w w' : World} {g : Nat} {rs : List R} {lo hi lo' hi' : Nat} (h : GW K w g rs lo hi) (t : Turned w w' lo' hi') (hd : hi ≤ lo' ∨ hi' ≤ lo) : GW K w' g rs lo hi :=
  ⟨h.out.turned t (by have := h.glo; have := h.ghi; omega), h.glo, h.ghi, fun r hr => by
    rcases h.rows r hr with e | ⟨b, e, h1, h2, h3, h4⟩
    · exact .inl e
    · exact .inr ⟨b, e, h1, h2, h3, h4.turned t (by omega)⟩, h.apart⟩
theorem GW.below {R : Type} {K : NK R} {w w' : World} {g : Nat} {rs : List R} {lo hi : Nat} (h : GW K w g rs lo hi) (hb : Below w.heap.size w w') : GW K w' g rs lo hi :=
  ⟨h.out.below hb h.out.1, h.glo, h.ghi, fun r hr => by
    rcases h.rows r hr with e | ⟨b, e, h1, h2, h3, h4⟩
    · exact .inl e
    · exact .inr ⟨b, e, h1, h2, h3, h4.below hb h4.1⟩, h.apart⟩
theorem GW.wide {R : Type} {K : NK R} {w : World} {g : Nat} {rs : List R} {lo hi lo' hi' : Nat} (h : GW K w g rs lo hi) (h1 : lo' ≤ lo) (h2 : hi ≤ hi') : GW K w g rs lo' hi' :=
  ⟨h.out, Nat.le_trans h1 h.glo, Nat.lt_of_lt_of_le h.ghi h2, fun r hr => by
    rcases h.rows r hr with e | ⟨b, e, q1, q2, q3, q4⟩
    · exact .inl e
    · exact .inr ⟨b, e, by omega, by omega, q3, q4⟩, h.apart⟩
theorem WCells.setW_other {w : World} {g b : Nat} {L : List Value} (h : WCells w b L) (hne : b ≠ g) (off : Nat) (vs : List Value) : WCells (Go.Proofs.YtbkimmbfepjodaaDoorT.setW w g off vs) b L := by
  induction vs generalizing w off with
  | nil => exact h
  | cons v vs ih => exact ih (h.other ⟨g, off, none⟩ v hne) _
/-- An element is laid anew. -/
theorem GW.put {R : Type} {K : NK R} {w : World} {g : Nat} {rs : List R} {lo hi : Nat} (h : GW K w g rs lo hi) (j : Nat) (hj : j < rs.length) (r : R) (hr : K.inn r = [] ∨ ∃ b, K.loc r = some ⟨b, 0, none⟩ ∧ lo ≤ b ∧ b < hi ∧ b ≠ g ∧ WCells w b (K.inn r))
    (hap : ∀ s ∈ rs, K.inn s ≠ [] → K.inn r ≠ [] → K.loc s ≠ K.loc r) : GW K (Go.Proofs.YtbkimmbfepjodaaDoorT.setW w g (j * K.sz) (K.enc r)) g (rs.set j r) lo hi := by
  refine ⟨h.out.setElem K.len j hj r, h.glo, h.ghi, fun s hs => ?_, ?_⟩
  · rcases List.mem_or_eq_of_mem_set hs with q | q
    · rcases h.rows s q with e | ⟨b, e, q1, q2, q3, q4⟩
      · exact .inl e
      · exact .inr ⟨b, e, q1, q2, q3, q4.setW_other q3 _ _⟩
    · subst q
      rcases hr with e | ⟨b, e, q1, q2, q3, q4⟩
      · exact .inl e
      · exact .inr ⟨b, e, q1, q2, q3, q4.setW_other q3 _ _⟩
  · have ha := List.pairwise_iff_getElem.1 h.apart
    refine List.pairwise_iff_getElem.2 (fun a b ha' hb' hab h1 h2 => ?_)
    rw [List.length_set] at ha' hb'
    rw [List.getElem_set] at h1 ⊢
    rw [List.getElem_set] at h2 ⊢
    by_cases ea : j = a
    · by_cases eb : j = b
      · omega
      · rw [if_pos ea] at h1 ⊢
        rw [if_neg eb] at h2 ⊢
        exact (hap _ (List.getElem_mem hb') h2 h1).symm
    · rw [if_neg ea] at h1 ⊢
      by_cases eb : j = b
      · rw [if_pos eb] at h2 ⊢
        exact hap _ (List.getElem_mem ha') h1 h2
      · rw [if_neg eb] at h2 ⊢
        exact ha a b ha' hb' hab h1 h2
theorem wp_shade {P : Program} {c : Code} {Q : Exit → Act → World → Prop} {a : Act} {W : World} (p : World → Prop) (h : p W) (k : ∀ W', p W' → Code.wp P c Q a W') : Code.wp P c Q a W := k W h
end Go.Proofs.YtbkimmbfepjodaaDoorT
/- Trees, plain, and in memory. -/
namespace Go.Proofs.YtbkimmbfepjodaaDoorT
set_option maxRecDepth 100000
open Go.RowKit

/-- A piece. -/
structure PM where
  group : Int
  len : Int
instance : Inhabited PM := ⟨⟨0, 0⟩⟩
/-- A node. -/
structure NM where
  id : Int
  parent : Int
  name : ByteArray
  dir : Bool
  schema : Int
  quota : Int
  len : Int
  pieces : List PM
  writer : Int
instance : Inhabited NM := ⟨⟨0, 0, ⟨#[]⟩, false, 0, 0, 0, [], 0⟩⟩
/-- A node in memory: what it is, and where its pieces lie. -/
structure NR where
  nd : NM
  loc : Option Addr
  cap : Nat
instance : Inhabited NR := ⟨⟨default, none, 0⟩⟩
end Go.Proofs.YtbkimmbfepjodaaDoorT
/- Paths, plain: names, what lies between slashes, paths and their names. Nothing of the program is read here. -/
namespace Go.Proofs.YtbkimmbfepjodaaDoorT
set_option maxRecDepth 100000
open Go.PlainAid (bt)

abbrev lb (s : ByteArray) : List UInt8 := s.data.toList
end Go.Proofs.YtbkimmbfepjodaaDoorT
/- Trees, plain: where a node is, right files, right directories, right trees. Nothing of the program is read here. -/
namespace Go.Proofs.YtbkimmbfepjodaaDoorT
set_option maxRecDepth 100000

end Go.Proofs.YtbkimmbfepjodaaDoorT
/- Rows of Units in the laws: their sizes, their copies, two that are the same (written by gen/mkrow.py). -/
namespace Go.Proofs.YtbkimmbfepjodaaDoorT
set_option maxRecDepth 100000
open Go.RowKit
attribute [local go_sem ↓] Go.wp_at_zero Go.wp_at_succ

structure UnM where
  group : Int
  index : Int
  text : ByteArray
  sum : Int
instance : Inhabited UnM := ⟨⟨0, 0, ⟨#[]⟩, 0⟩⟩
abbrev unv (f : UnM) : Value := .agg #[.int .i64 f.group, .int .i64 f.index, .string f.text, .int .i64 f.sum]
def unC (f : UnM) : List Value := [.int .i64 f.group, .int .i64 f.index, .string f.text, .int .i64 f.sum]
theorem unC_len (f : UnM) : (unC f).length = 4 := rfl
def unS (fs : List UnM) : List Value := fs.flatMap unC
theorem unS_len (fs : List UnM) : (unS fs).length = fs.length * 4 := flat_len unC_len fs
/-- A row in memory. -/
abbrev UnRow (w : World) (a : Option Addr) (fs : List UnM) : Prop := CRow w a (unS fs)
theorem UnRow.at {w : World} {a : Option Addr} {fs : List UnM} (h : UnRow w a fs) (hp : 0 < fs.length) :
    ∃ b off, a = some ⟨b, off, none⟩ ∧ b < w.heap.size ∧ ∀ j (h : j < fs.length), w.cell? ⟨b, off + j * 4, none⟩ = some (.int .i64 fs[j].group) ∧ w.cell? ⟨b, off + j * 4 + 1, none⟩ = some (.int .i64 fs[j].index) ∧ w.cell? ⟨b, off + j * 4 + 2, none⟩ = some (.string fs[j].text) ∧ w.cell? ⟨b, off + j * 4 + 3, none⟩ = some (.int .i64 fs[j].sum) := by
  obtain ⟨b, off, e, hb, hc⟩ := h (by rw [unS_len]; omega)
  exact ⟨b, off, e, hb, fun j hj => ⟨hc (j * 4) _ (flat_get unC_len fs j hj 0 (by omega)), hc (j * 4 + 1) _ (flat_get unC_len fs j hj 1 (by omega)), hc (j * 4 + 2) _ (flat_get unC_len fs j hj 2 (by omega)), hc (j * 4 + 3) _ (flat_get unC_len fs j hj 3 (by omega))⟩⟩
def UnFit (f : UnM) : Prop := f.text.size ≤ 9223372036854775807 ∧ (-9223372036854775808 ≤ f.group ∧ f.group ≤ 9223372036854775807) ∧ (-9223372036854775808 ≤ f.index ∧ f.index ≤ 9223372036854775807) ∧ (-9223372036854775808 ≤ f.sum ∧ f.sum ≤ 9223372036854775807)
def UnFits (fs : List UnM) : Prop := fs.length ≤ 9223372036854775807 ∧ ∀ f ∈ fs, UnFit f
def unSum : List UnM → Nat
  | [] => 0
  | f :: fs => f.text.size + unSum fs
theorem unSum_take (fs : List UnM) (k : Nat) (h : k < fs.length) : unSum (fs.take (k + 1)) = unSum (fs.take k) + (fs[k].text.size) := by
  induction fs generalizing k with
  | nil => simp at h
  | cons f fs ih =>
    cases k with
    | zero => simp [unSum]
    | succ k =>
      have := ih k (by simpa using h)
      simp only [List.take_succ_cons, unSum, List.getElem_cons_succ]
      omega
theorem unSum_mem {fs : List UnM} {f : UnM} (h : f ∈ fs) : f.text.size ≤ unSum fs := by
  induction fs with
  | nil => cases h
  | cons g fs ih =>
    rcases List.mem_cons.1 h with rfl | q
    · simp only [unSum]; omega
    · have := ih q
      simp only [unSum]; omega
def SzPostUn (left : Int) (n : Nat) (w : World) (e : Ending) (w' : World) : Prop := ∃ r : Int, e = .returned (.int .i64 r) ∧ -1 ≤ r ∧ (0 ≤ r → r + n = left) ∧ Below w.heap.size w w'
set_option maxHeartbeats 400000 in
theorem szUnit_any (f : UnM) (left : Int) (w : World) (h0 : 0 ≤ left) (h1 : left ≤ 1048576) (hf : UnFit f) :
    Calls Tw.prog 39 #[unv f, .int .i64 left] w fun e w' => SzPostUn left (f.text.size) w e w' := by
  have hh := hf
  unfold UnFit at hh
  clear hf
  by_cases c_text : left - f.text.size < 0
  · go_enter Tw.func39, Tw.ntmps39
    go_wp2_with fail
    go_ret
    exact ⟨-1, rfl, by omega, by first | omega | (intro _; push_cast; omega), (Below.refl _ _).alloc (Nat.le_refl _) _⟩
  · skip
    go_enter Tw.func39, Tw.ntmps39
    go_wp2_with fail
    go_ret
    exact ⟨left - f.text.size, rfl, by omega, by first | omega | (intro _; push_cast; omega), (Below.refl _ _).alloc (Nat.le_refl _) _⟩
set_option maxHeartbeats 1000000 in
theorem szUnitS_any (a : Option Addr) (fs : List UnM) (cap : Nat) (left : Int) (w : World) (hr : UnRow w a fs) (hf : UnFits fs) (h0 : 0 ≤ left) (h1 : left ≤ 1048576) :
    Calls Tw.prog 18 #[.slice a fs.length cap, .int .i64 left] w fun e w' => SzPostUn left (fs.length + unSum fs) w e w' := by
  have hl := hf.1
  by_cases c1 : left - fs.length < 0
  · clear hr hf
    go_enter Tw.func18, Tw.ntmps18
    go_wp2_with fail
    go_ret
    exact ⟨-1, rfl, by omega, by omega, Below.refl _ _⟩
  · have HR : Hid (UnRow w a fs) := hr
    have HF : Hid (UnFits fs) := hf
    clear hr hf
    go_enter Tw.func18, Tw.ntmps18
    go_wp2_with fail
    go_loopw [1, 5] (fun v i wr => ∃ (k : Nat) (l : Int), v = .int .i64 l ∧ i = .int .i64 k ∧ k ≤ fs.length ∧ 0 ≤ l ∧ l + fs.length + unSum (fs.take k) = left ∧ Below w.heap.size w wr) (fun _ i _ => fs.length - (intOf i).toNat)
    case atStart => exact ⟨0, left - fs.length, rfl, rfl, Nat.zero_le _, by omega, by simp [unSum], Below.refl _ _⟩
    case round =>
      obtain ⟨k, l, rfl, rfl, hk, hl0, hsum, hb⟩ := hrel
      by_cases hlt : k < fs.length
      · obtain ⟨b, off, rfl, hbl, hc⟩ := UnRow.at (HR.out.stays hb) (by omega)
        obtain ⟨d0, d1, d2, d3⟩ := hc k hlt
        have HS : Hid (l + fs.length + unSum (fs.take k) = left) := hsum
        have hst := unSum_take fs k hlt
        have HST : Hid (unSum (fs.take (k + 1)) = unSum (fs.take k) + (fs[k].text.size)) := hst
        have hfk := HF.out.2 fs[k] (List.getElem_mem hlt)
        obtain ⟨f, hfe⟩ : ∃ f, f = fs[k] := ⟨_, rfl⟩
        rw [← hfe] at d0 d1 d2 d3 hfk
        have HFE : Hid (f = fs[k]) := hfe
        have HB : Hid (Below w.heap.size w wr) := hb
        have hl1 : l ≤ 1048576 := by omega
        have k0 : (0 : Int) ≤ (k : Int) := by omega
        have k1 : (k : Int) < (fs.length : Int) := by omega
        clear hc hsum hst hfe hb
        go_wp2_with fail
        refine (szUnit_any f l _ hl0 hl1 hfk).mono ?_
        rintro e w2 ⟨r, rfl, hr1, hr2, hb2⟩
        have HB2 : Hid (Below w.heap.size w w2) := HB.out.trans (hb2.mono HB.out.size)
        clear hb2
        by_cases hr : r < 0
        · go_wp2_with fail
          go_ret
          exact ⟨-1, rfl, by omega, by omega, HB2.out⟩
        · have hr3 := hr2 (by omega)
          have HR3 : Hid (r + ((f.text.size : Nat) : Int) = l) := hr3
          clear hr2 hr3
          go_wp2_with fail
          go_roundw
          case rel => exact ⟨k + 1, r, rfl, by go_num, by omega, by omega, by rw [HST.out, ← HFE.out]; have := HR3.out; have := HS.out; push_cast at *; omega, HB2.out⟩
          case measure => simp [intOf]; omega
      · obtain rfl : k = fs.length := by omega
        rw [List.take_length] at hsum
        go_wp2_with fail
        go_ret
        exact ⟨l, rfl, by omega, by intro _; push_cast; omega, hb⟩
theorem toUnit_any (f : UnM) (w : World) :
    Calls Tw.prog 49 #[unv f] w fun e w' => e = .returned (unv f) ∧ Below w.heap.size w w' := by
  go_enter Tw.func49, Tw.ntmps49
  go_wp2_with fail
  refine bodyPost_ret (v := unv f) (by simp [results, Tw.results49, go_sem]) rfl ⟨rfl, ?_⟩
  exact (((Below.refl _ _).alloc (Nat.le_refl _) _).alloc (by simp) _).alloc (by simp; omega) _
/-- A copy, in a block of its own. -/
def ToPostUn (fs : List UnM) (w : World) (e : Ending) (w' : World) : Prop := ∃ g, e = .returned (.slice (some ⟨g, 0, none⟩) fs.length fs.length) ∧ w.heap.size ≤ g ∧ WCells w' g (unS fs) ∧ Below w.heap.size w w'
theorem infoUnit : (Tw.prog.info? 75).map (fun i => (i.zero, i.size, i.bytes)) = some (some (.agg #[.int .i64 0, .int .i64 0, .string ⟨#[]⟩, .int .i64 0]), 4, 40) := by kernel_rfl
set_option maxHeartbeats 1000000 in
theorem toUnitS_any (a : Option Addr) (fs : List UnM) (cap : Nat) (w : World) (hr : UnRow w a fs) (hl : fs.length ≤ 1048576) :
    Calls Tw.prog 27 #[.slice a fs.length cap] w fun e w' => ToPostUn fs w e w' := by
  obtain ⟨i0, hi, hz0, hz1, hz2⟩ := info_parts infoUnit
  have HR : Hid (UnRow w a fs) := hr
  clear hr
  go_enter Tw.func27, Tw.ntmps27
  go_wp2_with (at_make; refine wpList_make_full _ rfl _ _ 41 rfl w.heap.size 75 i0 _ 4 Tw.underlying41 hi hz0 hz1 .i64 .i64 _ _ fs.length rfl rfl (by omega) (by omega) ?b2 ?b3 ?b4 ?_)
  case b2 => rw [hz2]; omega
  case b3 => unfold maxLen; omega
  case b4 => omega
  intro wm hownm hgrm
  have hbm : Below w.heap.size w wm := (Below.refl _ _).grown hgrm (Nat.le_refl _) (fun j hj => by simp at hj)
  have hrow : WCells wm w.heap.size (unS (List.replicate fs.length default)) := by
    have h := own_wcells hownm
    have e : (madeCells #[.int .i64 0, .int .i64 0, .string ⟨#[]⟩, .int .i64 0] (fs.length * 4)).toList = unS (List.replicate fs.length default) := made_flat unC_len (by decide) #[.int .i64 0, .int .i64 0, .string ⟨#[]⟩, .int .i64 0] default rfl _
    rw [e] at h; exact h
  clear hownm hgrm
  go_wp2_with fail
  go_loopw [4] (fun i wr => ∃ (k : Nat) (gs : List UnM), i = .int .i64 k ∧ k ≤ fs.length ∧ gs.length = fs.length ∧ gs.take k = fs.take k ∧ WCells wr w.heap.size (unS gs) ∧ Below w.heap.size w wr) (fun i _ => fs.length - (intOf i).toNat)
  case atStart => exact ⟨0, _, rfl, by omega, by simp, by simp, hrow, hbm⟩
  case round =>
    clear hrow hbm
    obtain ⟨k, gs, rfl, hk, hgl, hgt, hw, hb⟩ := hrel
    by_cases hlt : k < fs.length
    · obtain ⟨b, off, rfl, hbl, hc⟩ := UnRow.at HR.out (by omega)
      obtain ⟨d0, d1, d2, d3⟩ := hc k hlt
      rw [← hb.cell (p := ⟨b, off + k * 4, none⟩) hbl] at d0
      rw [← hb.cell (p := ⟨b, off + k * 4 + 1, none⟩) hbl] at d1
      rw [← hb.cell (p := ⟨b, off + k * 4 + 2, none⟩) hbl] at d2
      rw [← hb.cell (p := ⟨b, off + k * 4 + 3, none⟩) hbl] at d3
      obtain ⟨f, hfe⟩ : ∃ f, f = fs[k] := ⟨_, rfl⟩
      rw [← hfe] at d0 d1 d2 d3
      have k0 : (0 : Int) ≤ (k : Int) := by omega
      have k1 : (k : Int) < (fs.length : Int) := by omega
      have HFE : Hid (f = fs[k]) := hfe
      have HG : Hid (gs.length = fs.length ∧ gs.take k = fs.take k) := ⟨hgl, hgt⟩
      clear hc hfe hgl hgt
      go_wp2_with fail
      refine (toUnit_any f _).mono ?_
      rintro e w2 ⟨rfl, hb2⟩
      have hw2 := hw.below hb2 hw.1
      have hb3 : Below w.heap.size w w2 := hb.trans (hb2.mono hb.size)
      clear hw hb hb2 d0 d1 d2 d3
      have hgk : k < gs.length := by have := HG.out.1; omega
      obtain ⟨c0, z0⟩ := hw2.2 (k * 4) _ (flat_get unC_len gs k hgk 0 (by omega))
      obtain ⟨c1, z1⟩ := hw2.2 (k * 4 + 1) _ (flat_get unC_len gs k hgk 1 (by omega))
      obtain ⟨c2, z2⟩ := hw2.2 (k * 4 + 2) _ (flat_get unC_len gs k hgk 2 (by omega))
      obtain ⟨c3, z3⟩ := hw2.2 (k * 4 + 3) _ (flat_get unC_len gs k hgk 3 (by omega))
      have HW : Hid (WCells w2 w.heap.size (unS gs)) := hw2
      clear hw2
      have hset := HW.out.setElem unC_len k hgk f
      have hbn := below_setW hb3 (Nat.le_refl _) (k * 4) (unC f)
      have HS : Hid (WCells (setW w2 w.heap.size (k * 4) (unC f)) w.heap.size (unS (gs.set k f))) := hset
      have HBN : Hid (Below w.heap.size w (setW w2 w.heap.size (k * 4) (unC f))) := hbn
      clear hset hbn
      go_wp2_with fail
      go_roundw
      case rel =>
        refine ⟨k + 1, gs.set k f, by go_num, by omega, by rw [List.length_set]; exact HG.out.1, ?_, HS.out, HBN.out⟩
        rw [List.take_succ_eq_append_getElem (by rw [List.length_set]; exact hgk), List.take_succ_eq_append_getElem hlt, List.take_set_of_le (Nat.le_refl _), HG.out.2, List.getElem_set_self, HFE.out]
      case measure => simp [intOf]; omega
    · have e : gs = fs := by
        rw [List.take_of_length_le (by omega), List.take_of_length_le (by omega)] at hgt; exact hgt
      subst e
      go_wp2_with fail
      go_ret
      exact ⟨_, rfl, Nat.le_refl _, hw, hb⟩
theorem eqUnit_same (f : UnM) (w : World) :
    Calls Tw.prog 61 #[unv f, unv f] w fun e w' => e = .returned (.bool true) ∧ Below w.heap.size w w' := by
  go_enter Tw.func61, Tw.ntmps61
  go_wp2_with fail
  go_ret
  exact ⟨rfl, ((Below.refl _ _).alloc (Nat.le_refl _) _).alloc (by simp) _⟩
set_option maxHeartbeats 1000000 in
theorem eqUnitS_same (a b : Option Addr) (fs : List UnM) (ca cb : Nat) (w : World) (ha : UnRow w a fs) (hb : UnRow w b fs) (hl : fs.length ≤ 9000000) :
    Calls Tw.prog 38 #[.slice a fs.length ca, .slice b fs.length cb] w fun e w' => e = .returned (.bool true) ∧ Below w.heap.size w w' := by
  have HA : Hid (UnRow w a fs) := ha
  have HB : Hid (UnRow w b fs) := hb
  clear ha hb
  go_enter Tw.func38, Tw.ntmps38
  go_wp2_with fail
  go_loopw [5] (fun i wr => ∃ (k : Nat), i = .int .i64 k ∧ k ≤ fs.length ∧ Below w.heap.size w wr) (fun i _ => fs.length - (intOf i).toNat)
  case atStart => exact ⟨0, rfl, Nat.zero_le _, Below.refl _ _⟩
  case round =>
    obtain ⟨k, rfl, hk, hbl⟩ := hrel
    by_cases hlt : k < fs.length
    · obtain ⟨b1, o1, rfl, l1, hc1⟩ := UnRow.at (HA.out.stays hbl) (by omega)
      obtain ⟨b2, o2, rfl, l2, hc2⟩ := UnRow.at (HB.out.stays hbl) (by omega)
      obtain ⟨d0, d1, d2, d3⟩ := hc1 k hlt
      obtain ⟨e0, e1, e2, e3⟩ := hc2 k hlt
      obtain ⟨f, hfe⟩ : ∃ f, f = fs[k] := ⟨_, rfl⟩
      rw [← hfe] at d0 d1 d2 d3 e0 e1 e2 e3
      have HS : Hid (Below w.heap.size w wr) := hbl
      have k0 : (0 : Int) ≤ (k : Int) := by omega
      have k1 : (k : Int) < (fs.length : Int) := by omega
      clear hc1 hc2 hfe hbl
      go_wp2_with fail
      go_region_held3 (fun w' => w'.cell? ⟨b1, o1 + k * 4, none⟩ = some (.int .i64 f.group) ∧ w'.cell? ⟨b1, o1 + k * 4 + 1, none⟩ = some (.int .i64 f.index) ∧ w'.cell? ⟨b1, o1 + k * 4 + 2, none⟩ = some (.string f.text) ∧ w'.cell? ⟨b1, o1 + k * 4 + 3, none⟩ = some (.int .i64 f.sum) ∧ w'.cell? ⟨b2, o2 + k * 4, none⟩ = some (.int .i64 f.group) ∧ w'.cell? ⟨b2, o2 + k * 4 + 1, none⟩ = some (.int .i64 f.index) ∧ w'.cell? ⟨b2, o2 + k * 4 + 2, none⟩ = some (.string f.text) ∧ w'.cell? ⟨b2, o2 + k * 4 + 3, none⟩ = some (.int .i64 f.sum))
        (first | go_keep | (refine ⟨?_, ?_, ?_, ?_, ?_, ?_, ?_, ?_⟩ <;> first | (rw [hb2.cell (by exact l1)]; simp [*]) | (rw [hb2.cell (by exact l2)]; simp [*])))
        ((go_at_call 61; refine (eqUnit_same f _).mono ?_; rintro e w2 ⟨rfl, hb2⟩))
      all_goals go_wp2_with fail
      all_goals
        have hb3 : Below w.heap.size w w2 := HS.out.trans ((Below.drew (Below.refl _ _)).trans (hb2.mono HS.out.size))
        exact ⟨⟨k + 1, by go_num, by omega, hb3⟩, by simp [intOf]; omega⟩
    · have e : k = fs.length := by omega
      subst e
      go_wp2_with fail
      go_ret
      exact ⟨rfl, hbl⟩
end Go.Proofs.YtbkimmbfepjodaaDoorT
/- Plain facts on check sums of 32 bits: one step of the sum is told by 'st', a sum over bytes by 'crc', its four bytes by 'four'; nothing of the program is read here. -/
namespace Go.Proofs.YtbkimmbfepjodaaDoorT.W
abbrev B32 := BitVec 32
def poly : B32 := 3558460437#32
/-- One step: half of it, and the number when it was odd. -/
def st (x : B32) : B32 := (x >>> 1) ^^^ (if x.getLsbD 0 then poly else 0#32)
def st4 (x : B32) : B32 := st (st (st (st x)))
def st8 (x : B32) : B32 := st4 (st4 x)
theorem st_xor (x y : B32) : st (x ^^^ y) = st x ^^^ st y := by
  unfold st
  rw [BitVec.getLsbD_xor, BitVec.ushiftRight_xor_distrib]
  generalize x >>> 1 = a
  generalize y >>> 1 = b
  generalize poly = p
  cases x.getLsbD 0 <;> cases y.getLsbD 0 <;> (ext i hi; simp; try (cases a[i] <;> cases b[i] <;> cases p[i] <;> rfl))
theorem st4_xor (x y : B32) : st4 (x ^^^ y) = st4 x ^^^ st4 y := by unfold st4; rw [st_xor, st_xor, st_xor, st_xor]
theorem st_even (x : B32) (h : x.getLsbD 0 = false) : st x = x >>> 1 := by unfold st; rw [h]; simp
theorem st4_high (x : B32) (h0 : x.getLsbD 0 = false) (h1 : x.getLsbD 1 = false) (h2 : x.getLsbD 2 = false) (h3 : x.getLsbD 3 = false) : st4 x = x >>> 4 := by
  unfold st4
  rw [st_even x h0, st_even (x >>> 1) (by simpa using h1), st_even (x >>> 1 >>> 1) (by simpa [BitVec.getLsbD_ushiftRight] using h2), st_even (x >>> 1 >>> 1 >>> 1) (by simpa [BitVec.getLsbD_ushiftRight] using h3)]
  simp [← BitVec.shiftRight_add]
def tab (n : Nat) : Nat := (st4 (BitVec.ofNat 32 n)).toNat
theorem tab_all : (List.range 16).map tab = [0, 1166650509, 2333301018, 3466261911, 3189058079, 4221339282, 889615109, 1888477064, 3558460437, 2442158232, 1594529039, 444807554, 1779230218, 797264519, 3776954128, 2761298845] := by decide +kernel
/-- Four steps at once: the lowest four bits tell all that is added, the others only move. -/
theorem st4_low (x : B32) : st4 x = (x >>> 4) ^^^ st4 (x &&& 15#32) := by
  have e : x = (x &&& ~~~(15#32)) ^^^ (x &&& 15#32) := by
    ext i hi; simp only [BitVec.getElem_xor, BitVec.getElem_and, BitVec.getElem_not]
    cases x[i] <;> cases (15#32)[i] <;> rfl
  have h : st4 (x &&& ~~~(15#32)) = x >>> 4 := by
    rw [st4_high]
    · ext i hi
      simp only [BitVec.getElem_ushiftRight, BitVec.getLsbD_and, BitVec.getLsbD_not]
      by_cases h : 4 + i < 32
      · have : (15#32).getLsbD (4 + i) = false := by
          have : i < 28 := by omega
          have hall : ∀ j : Fin 28, (15#32).getLsbD (4 + j.val) = false := by decide
          exact hall ⟨i, this⟩
        simp only [this, h]; simp [BitVec.getLsbD_eq_getElem h]
      · simp [BitVec.getLsbD_of_ge x (4 + i) (by omega)]
    all_goals simp
  have h2 := st4_xor (x &&& ~~~(15#32)) (x &&& 15#32)
  rw [h] at h2
  rw [← e] at h2
  exact h2
def stN : Nat → B32 → B32
  | 0, z => z
  | j + 1, z => st (stN j z)
theorem st8_N (z : B32) : stN 8 z = st8 z := rfl
/-- A sum over bytes. -/
def by32 (b : UInt8) : B32 := BitVec.ofNat 32 b.toNat
def crc (s : B32) (l : List UInt8) : B32 := l.foldl (fun s b => st8 (s ^^^ by32 b)) s
theorem crc_snoc (s : B32) (l : List UInt8) (b : UInt8) : crc s (l ++ [b]) = st8 (crc s l ^^^ by32 b) := by simp [crc]
/-- The four bytes of a sum, the highest first. -/
def four (x : B32) : List UInt8 := [UInt8.ofNat (x.toNat / 16777216), UInt8.ofNat (x.toNat / 65536), UInt8.ofNat (x.toNat / 256), UInt8.ofNat x.toNat]
end Go.Proofs.YtbkimmbfepjodaaDoorT.W
namespace Go.Proofs.YtbkimmbfepjodaaDoorT
set_option maxRecDepth 100000
open Go.RowKit
open W (B32)
/-- A sum as the model holds it. -/
abbrev u32 (x : B32) : Value := .int .u32 (x.toNat : Int)
theorem u32_lt (x : B32) : (0 : Int) ≤ (x.toNat : Int) ∧ (x.toNat : Int) < 4294967296 := ⟨by omega, by have := x.isLt; omega⟩
theorem u32_wrap (x : B32) : IntKind.u32.wrap (x.toNat : Int) = (x.toNat : Int) := by
  have := x.isLt
  simp [IntKind.wrap, IntKind.bits, IntKind.signed]; omega
theorem u32_back (x : B32) : BitVec.ofInt IntKind.u32.bits (x.toNat : Int) = x := by
  show BitVec.ofInt 32 (x.toNat : Int) = x
  simp
theorem u32_xor (x y : B32) : bits .xor .u32 (x.toNat : Int) (y.toNat : Int) = ((x ^^^ y).toNat : Int) := by
  unfold bits
  simp only [u32_back]
  exact u32_wrap (x ^^^ y)
theorem u32_and (x y : B32) : bits .and .u32 (x.toNat : Int) (y.toNat : Int) = ((x &&& y).toNat : Int) := by
  unfold bits
  simp only [u32_back]
  exact u32_wrap (x &&& y)
theorem u32_shr (x : B32) (n : Nat) : (x.toNat : Int) / 2 ^ n = ((x >>> n).toNat : Int) := by
  rw [BitVec.toNat_ushiftRight, Nat.shiftRight_eq_div_pow]
  norm_cast
theorem u32_byte (y : B32) (b : UInt8) : bits .xor .u32 (y.toNat : Int) (b.toNat : Int) = ((y ^^^ W.by32 b).toNat : Int) := by
  have h := u32_xor y (W.by32 b)
  have e : (W.by32 b).toNat = b.toNat := by have := b.toNat_lt; simp [W.by32]
  rw [e] at h
  exact h
theorem u32_odd (y : B32) : (y.toNat : Int).tmod 2 = if y.getLsbD 0 then 1 else 0 := by
  rw [Int.tmod_eq_emod_of_nonneg (by omega)]
  have e : y.getLsbD 0 = decide (y.toNat % 2 = 1) := by
    rw [BitVec.getLsbD, Nat.testBit_zero]
  rw [e]
  by_cases h : y.toNat % 2 = 1 <;> simp [h] <;> omega
theorem u32_half (y : B32) : (y.toNat : Int).tdiv 2 = ((y >>> 1).toNat : Int) := by
  rw [Int.tdiv_eq_ediv_of_nonneg (by omega)]
  exact u32_shr y 1
theorem u32_poly (y : B32) : bits .xor .u32 ((y >>> 1).toNat : Int) 3558460437 = (((y >>> 1) ^^^ W.poly).toNat : Int) := u32_xor (y >>> 1) W.poly
end Go.Proofs.YtbkimmbfepjodaaDoorT
