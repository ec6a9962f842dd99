/- Texts of ours, laid one behind the other: TTwD, TTwE, TSpnF, TDraw, TDrawB, TDrG. -/
import Derived.Test.YtfhcpehfmecpjaaPk19
import Derived.Deep.RegionHeld3
import Derived.Lib.LazyBuf
import Derived.PlainAid
import Derived.Deep.QuietTactic
import Derived.BigQuiet
import Derived.Deep.DrawnRows
import Derived.OwnWalk
set_option linter.unusedVariables false
set_option linter.unusedSimpArgs false
/- Over the twin: the program's own JoinUnits. -/
namespace Go.Proofs.YtfhcpehfmecpjaaT
open Go.RowKit
open Go.Proofs.Ytfhcpehfmecpjaa (cellV RcReg wp_take wp_shut)
attribute [local go_sem ↓] Go.wp_at_zero Go.wp_at_succ

section
variable {P : Program}
/-- 'copy(dst, s)', s a string: as many of its bytes as there is room for go over. -/
theorem run_copy_cut (w : World) (dT sT ty elem : TypeId) (b o dLen dCap : Nat) (t : ByteArray)
    (hu : P.underlying dT = some (.slice elem)) (hz : ∀ w, (Go.sizeOf elem).run P w = .ok 1 w)
    (hc : ∀ j, j < min t.size dLen → (w.cell? ⟨b, o + j, none⟩).isSome = true) (hf : ∀ j, j < min t.size dLen → w.frozen? ⟨b, o + j, none⟩ = false) :
    (Builtin.copy_ #[dT, sT] ty #[.slice (some ⟨b, o, none⟩) dLen dCap, .string t]).run P w = .ok (goInt (min t.size dLen : Nat)) (w.setCells b o ((t.data.toList.map fun x => Value.int .u8 (x.toNat : Int)).take (min t.size dLen))) := by
  have hl : ((t.data.toList.map fun x => Value.int .u8 (x.toNat : Int)).take (min t.size dLen)).length = min t.size dLen := by rw [List.length_take, List.length_map, ← Lib.size_eq]; omega
  have hst := run_storeCells_cells (P := P) b o ((t.data.toList.map fun x => Value.int .u8 (x.toNat : Int)).take (min t.size dLen)) 0 w (by rw [hl]; simpa using hc) (by rw [hl]; simpa using hf) (by
    intro v hv
    obtain ⟨x, _, rfl⟩ := List.mem_map.1 (List.mem_of_mem_take hv)
    rfl)
  have e : Nat.min t.size dLen = min t.size dLen := rfl
  simp [Builtin.copy_, run_underlying hu, Builtin.lenOf, Builtin.firstCells, hz, e]
  rw [show (List.take (min t.size dLen) (List.map (fun x : UInt8 => Value.int IntKind.u8 (x.toNat : Int)) t.data.toList)) = ((t.data.toList.map fun x => Value.int .u8 (x.toNat : Int)).take (min t.size dLen)) from rfl, hst]
  rfl
theorem step_copy_cut {ops : Array Oper} {o : Oper} {a : Act} {w : World} {K : Act → World → Prop} {Q : Exit → Act → World → Prop} {E : Prop}
    (hg : o.guard = none) (d x : Operand) (dT sT : TypeId) (hop : o.op = Op.call { callee := Callee.builtin Builtin.copy, args := #[d, x], argTypes := #[dT, sT] })
    (elem : TypeId) (hu : P.underlying dT = some (.slice elem)) (hz : ∀ w, (Go.sizeOf elem).run P w = .ok 1 w)
    (b off dLen dCap : Nat) (hd : a.eval d = .slice (some ⟨b, off, none⟩) dLen dCap) (t : ByteArray) (hx : a.eval x = .string t)
    (hc : ∀ j, j < min t.size dLen → (w.cell? ⟨b, off + j, none⟩).isSome = true) (hf : ∀ j, j < min t.size dLen → w.frozen? ⟨b, off + j, none⟩ = false)
    (hK : K (a.put o.dst (goInt (min t.size dLen : Nat))) (w.setCells b off ((t.data.toList.map fun x => Value.int .u8 (x.toNat : Int)).take (min t.size dLen)))) :
    if Region.wanted o (yielded ops a.tmps) = true then Oper.wp P o a w K Q else E := by
  have hw : Region.wanted o (yielded ops a.tmps) = true := by simp [Region.wanted, hg]
  rw [if_pos hw]
  have hrun := run_copy_cut (P := P) w dT sT o.type elem b off dLen dCap t hu hz hc hf
  unfold Oper.wp
  simp only [Nat.min_def] at hrun hK
  simp [execOp, hop, resolve, invoke, builtin, hd, hx, hrun, Result.andThen]
  exact hK
end
theorem heap_setCells {b c : Nat} (h : c ≠ b) : ∀ (vs : List Value) (o : Nat) (w : World), (w.setCells b o vs).heap[c]? = w.heap[c]?
  | [], _, _ => rfl
  | v :: r, o, w => by rw [World.setCells, heap_setCells h r]; exact Below.heap_setCell _ _ _ _ h
theorem size_setCells {b : Nat} : ∀ (vs : List Value) (o : Nat) (w : World), (w.setCells b o vs).heap.size = w.heap.size
  | [], _, _ => rfl
  | v :: r, o, w => by rw [World.setCells, size_setCells r]; simp [World.setCell]
theorem C4.sets {w : World} {g a b u p : Nat} (h : C4 w g a b u p) (c o : Nat) (vs : List Value) (hq : g ≠ c) : C4 (w.setCells c o vs) g a b u p := by
  have e := heap_setCells hq vs o w
  unfold C4 World.cell? at h ⊢
  simp only [e]
  exact h
/-- The bytes of a group, the first i of them filled. -/
def GRow (k : Nat) (U : List ByteArray) (w : World) (g n i : Nat) : Prop := g < w.heap.size ∧ ∀ d, d < n → w.cell? ⟨g, d, none⟩ = some (.int .u8 ((if d < i then joinAt k U d else 0 : UInt8).toNat : Int)) ∧ w.frozen? ⟨g, d, none⟩ = false
theorem GRow.below {k : Nat} {U : List ByteArray} {w w' : World} {g n i : Nat} (h : GRow k U w g n i) (hb : Below w.heap.size w w') : GRow k U w' g n i :=
  ⟨Nat.lt_of_lt_of_le h.1 hb.size, fun d hd => ⟨(hb.cell (p := ⟨g, d, none⟩) h.1).trans (h.2 d hd).1, (hb.frozen (p := ⟨g, d, none⟩) h.1).trans (h.2 d hd).2⟩⟩
theorem GRow.aside {k : Nat} {U : List ByteArray} {w w' : World} {g n i : Nat} (h : GRow k U w g n i) (hs : w'.heap.size = w.heap.size) (e : w'.heap[g]? = w.heap[g]?) : GRow k U w' g n i := by
  refine ⟨by rw [hs]; exact h.1, fun d hd => ?_⟩
  have q := h.2 d hd
  simp only [World.cell?, World.frozen?, e] at q ⊢
  exact q
theorem GRow.made {k : Nat} {U : List ByteArray} {w : World} {g n : Nat} (h : WCells w g (madeCells #[Value.int .u8 0] n).toList) : GRow k U w g n 0 := by
  refine ⟨h.1, fun d hd => ?_⟩
  have q := h.2 d (.int .u8 0) (by rw [toList_madeCells_one]; simp [hd])
  exact ⟨by rw [q.1]; simp, q.2⟩
theorem get_tail {x : ByteArray} {q d : Nat} (h : q + d < x.size) : (x.extract q x.size).data.toList.getD d 0 = x.data.toList.getD (q + d) 0 := by
  have h' : q + d < x.data.size := h
  have h2 : d < (x.extract q x.size).data.size := by
    show d < (x.extract q x.size).size
    rw [ByteArray.size_extract]; omega
  rw [List.getD_eq_getElem?_getD, List.getD_eq_getElem?_getD, Array.getElem?_toList, Array.getElem?_toList, Array.getElem?_eq_getElem h', Array.getElem?_eq_getElem h2]
  simp [ByteArray.data_extract]
theorem GRow.copy {k : Nat} (hk : k = 2 ∨ k = 3 ∨ k = 4) {U : List ByteArray} {w : World} {g n i j : Nat} (h : GRow k U w g n i) (h4 : i % 4 = 0) (hij : i ≤ j) (hj4 : j ≤ i + 4) (hjn : j ≤ n) {x : ByteArray} (hx : x = U.getD (unitAt k i) ⟨#[]⟩) {q m : Nat} (hq : q = min (placeIn k i) x.size) (hm : m = min (x.extract q x.size).size (j - i)) :
    GRow k U (w.setCells g i (((x.extract q x.size).data.toList.map fun c => Value.int .u8 (c.toNat : Int)).take m)) g n j := by
  have hes : (x.extract q x.size).size = x.size - q := by rw [ByteArray.size_extract]; omega
  have hl : (((x.extract q x.size).data.toList.map fun c => Value.int .u8 (c.toNat : Int)).take m).length = m := by rw [List.length_take, List.length_map, ← Lib.size_eq]; omega
  refine ⟨by rw [size_setCells]; exact h.1, fun d hd => ⟨?_, by rw [World.frozen?_setCells]; exact (h.2 d hd).2⟩⟩
  have hjoin : ∀ e, e < 4 → joinAt k U (i + e) = x.data.toList.getD (placeIn k i + e) 0 := fun e he => by unfold joinAt; rw [unit_same hk h4 he, place_same hk h4 he, hx]
  by_cases hin : i ≤ d ∧ d < i + m
  · obtain ⟨e, rfl⟩ := Nat.exists_eq_add_of_le hin.1
    have he : e < m := by omega
    have q1 := World.cell?_setCells_in g (((x.extract q x.size).data.toList.map fun c => Value.int .u8 (c.toNat : Int)).take m) i w (fun a ha => by rw [(h.2 (i + a) (by omega)).1]; rfl) e (by rw [hl]; exact he)
    rw [q1, if_pos (by omega), hjoin e (by omega), List.getElem_take, List.getElem_map]
    have hqp : q = placeIn k i := by omega
    have q2 := get_tail (x := x) (q := q) (d := e) (by omega)
    rw [← hqp, ← q2]
    have hlt : e < (x.extract q x.size).data.toList.length := by rw [← Lib.size_eq]; omega
    rw [List.getD_eq_getElem?_getD, List.getElem?_eq_getElem hlt]
    rfl
  · rw [World.cell?_setCells_out _ _ _ _ _ (fun _ _ => by rw [hl]; show d < i ∨ i + m ≤ d; omega), (h.2 d hd).1]
    by_cases c1 : d < i
    · rw [if_pos c1, if_pos (by omega)]
    · rw [if_neg c1]
      by_cases c2 : d < j
      · rw [if_pos c2]
        obtain ⟨e, rfl⟩ := Nat.exists_eq_add_of_le (show i ≤ d by omega)
        rw [hjoin e (by omega), get_none x _ (by omega)]
      · rw [if_neg c2]
theorem GRow.text {k : Nat} {U : List ByteArray} {w : World} {g n i : Nat} (h : GRow k U w g n i) (hi : n ≤ i) : (convert 22 9 (.slice (some ⟨g, 0, none⟩) n n)).run Tw.prog w = .ok (.string ⟨(joinL k U n).toArray⟩) w := by
  have q := run_convert_bytes_back (P := Tw.prog) w 22 9 5 ⟨g, 0, none⟩ n (joinL k U n) Tw.underlying22 Tw.underlying5 Tw.underlying9 (fun j hj => by
    rw [joinL_len] at hj
    have := (h.2 j hj).1
    rw [if_pos (by omega)] at this
    have hadd : (⟨g, 0, none⟩ : Addr).add j = ⟨g, j, none⟩ := by unfold Addr.add; split <;> simp_all
    rw [hadd, this]
    simp [joinL])
  rw [joinL_len] at q
  exact q
end Go.Proofs.YtfhcpehfmecpjaaT
/- Over the twin: the walk of the program's own JoinUnits. -/
namespace Go.Proofs.YtfhcpehfmecpjaaT
open Go.RowKit
open Go.Proofs.Ytfhcpehfmecpjaa (cellV RcReg wp_take wp_shut)
attribute [local go_sem ↓] Go.wp_at_zero Go.wp_at_succ

set_option maxRecDepth 100000 in
set_option maxHeartbeats 8000000 in
theorem implJoin_walk (s : Int) (U : List ByteArray) (N k b2 o2 cap2 : Nat) (w : World) (hok : schOk s = true) (hk : schK s = k) (hul : U.length = k) (hN : N ≤ groupN s) (hUs : ∀ j, j < k → (U.getD j ⟨#[]⟩).size ≤ 1048576) (hU : b2 < w.heap.size ∧ ∀ j, j < k → w.cell? ⟨b2, o2 + j, none⟩ = some (.string (U.getD j ⟨#[]⟩))) :
    Calls Tw.prog 9 #[.int .i64 s, .slice (some ⟨b2, o2, none⟩) k cap2, .int .i64 (N : Int)] w fun e w' => JoinPost (joinX s U (N : Int)) w e w' := by
  obtain ⟨i0, hi0, hz0, hz1, hz2⟩ := info_parts Tw.info5
  obtain ⟨c1, c2, _, _⟩ := sch_bounds hok
  have HS := Shut.mk (fun W => implSch s W)
  unfold SchPost at HS
  have HG := Shut.mk (fun W => implSize s W)
  have hg32 := groupN_bounds s
  have e0 : joinX s U (N : Int) = (⟨(joinL (schK s) U N).toArray⟩, true) := by unfold joinX; rw [if_pos ⟨hok, by rw [hul, hk], by omega, by omega⟩]; rfl
  have HCE := Shut.mk (fun W => twCells s N (by omega) hok W)
  have hk3 : schK s = 2 ∨ schK s = 3 ∨ schK s = 4 := by omega
  have HU := Shut.mk hU
  have HUS := Shut.mk hUs
  rw [hok] at HS
  unfold JoinPost
  rw [e0]
  rw [hk] at HS HCE c1 c2 hk3 ⊢
  have hkk : ((k : Int) != (k : Int)) = false := by simp
  have n0 : ¬ (N : Int) < 0 := by omega
  have n1 : ¬ (groupN s : Int) < (N : Int) := by omega
  have n32 : N ≤ 32 := by omega
  clear hok hk hul hU e0 hUs
  generalize schM s = m at *
  generalize groupN s = S at *
  go_enter Tw.func9, Tw.ntmps9
  go_wp2_with fail
  refine (HS.out _).mono ?_
  rintro e w1 ⟨rfl, rfl⟩
  go_wp2_with fail
  refine (HG.out _).mono ?_
  rintro e w2 ⟨rfl, rfl⟩
  go_wp2_with (at_make; refine wpList_make_full _ rfl _ _ 22 rfl w2.heap.size 5 i0 _ 1 Tw.underlying22 hi0 hz0 hz1 .i64 .i64 _ _ N rfl rfl (by omega) (by omega) ?b2 ?b3 ?b4 ?_)
  case b2 => rw [hz2]; omega
  case b3 => unfold maxLen; omega
  case b4 => omega
  intro wm hownm hgrm
  have hbm : Below w2.heap.size w2 wm := (Below.refl _ _).grown hgrm (Nat.le_refl _) (fun j hj => by simp at hj)
  have hrow : GRow k U wm w2.heap.size N 0 := GRow.made (own_wcells hownm)
  have HROW := Shut.mk hrow
  have HBM := Shut.mk hbm
  clear hownm hgrm hrow hbm
  go_wp2_with fail
  refine (HCE.out _).mono ?_
  rintro e w4 ⟨rfl, mm, hw4⟩
  have HC4 : Shut (w4.heap[wm.heap.size]? = some (.chan 32 (cellsK k N 9 0).toArray true mm 0 false)) := ⟨by rw [hw4]; exact heap_alloc_new _ _⟩
  have HROW4 : Shut (GRow k U w4 w2.heap.size N 0) := ⟨by rw [hw4]; exact HROW.out.below ((Below.refl _ _).alloc (Nat.le_refl _) _)⟩
  have HBM4 : Shut (Below w2.heap.size w2 w4) := ⟨by rw [hw4]; exact HBM.out.alloc HBM.out.size _⟩
  have HGC : Shut (w2.heap.size < wm.heap.size) := ⟨HROW.out.1⟩
  generalize wm.heap.size = gc at *
  clear hw4 HROW HBM HCE
  go_upto_region 6 with fail
  go_loopw [] (fun wr => ∃ (i f r : Nat), i % 4 = 0 ∧ N ≤ i + 4 * f ∧ Shut (wr.heap[gc]? = some (.chan 32 (cellsK k N f i).toArray true mm r false)) ∧ Shut (GRow k U wr w2.heap.size N (min i N)) ∧ Shut (Below w2.heap.size w2 wr)) (fun wr => chLeft gc wr)
  case atStart => exact ⟨0, 9, 0, rfl, by omega, HC4, by rw [Nat.zero_min]; exact HROW4, HBM4⟩
  case round =>
    clear HC4 HROW4 HBM4
    obtain ⟨i, f, r, hi4, hfu, hch, hrow, hbo⟩ := hrel
    obtain ⟨wo, rfl⟩ : ∃ wo, wo = wr := ⟨_, rfl⟩
    refine wp_seq ?_
    have hne : w2.heap.size ≠ gc := Nat.ne_of_lt HGC.out
    have hlc := chan_lt hch.out
    by_cases hlt : i < N
    · obtain ⟨f', hcs, hfu'⟩ := cellsK_more (k := k) hfu hlt
      have hchv := hch.out
      have hleft := chLeft_is hch.out
      rw [hcs] at hchv hleft
      rw [Nat.min_eq_left (show i ≤ N by omega)] at hrow
      refine wp_take (slot := 42) (pair := 43) (flag := 44) (c := gc) (twRc (by kernel_rfl) (by kernel_rfl) (by kernel_rfl)) (by rfl) (by simp) hchv ?_
      obtain ⟨wt, hwt⟩ : ∃ wt, wt = wo.setChan gc 32 (cellsK k N f' (i + 4)).toArray true mm (r + 1) false := ⟨_, rfl⟩
      rw [← hwt]
      have HCT : Shut (wt.heap[gc]? = some (.chan 32 (cellsK k N f' (i + 4)).toArray true mm (r + 1) false)) := ⟨by rw [hwt]; exact Go.Conc.heap_setChan _ _ _ _ _ _ _ _ hlc⟩
      have HBT : Shut (Below w2.heap.size w2 wt) := ⟨by rw [hwt]; exact Go.Conc.below_setChan hbo.out (Nat.le_of_lt HGC.out) _ _ _ _ _ _⟩
      have HRT : Shut (GRow k U wt w2.heap.size N i) := ⟨by rw [hwt]; exact hrow.out.aside (Go.Conc.size_setChan _ _ _ _ _ _ _ _) (Go.Proofs.Ytfhcpehfmecpjaa.set_other hne)⟩
      have HLE : Shut (chLeft gc wo = (cellsK k N f' (i + 4)).length + 1) := ⟨by rw [hleft]; simp⟩
      clear hwt hch hrow hbo hchv hleft hcs
      have hul := unit_lt (show 0 < k by omega) i
      obtain ⟨j, hj⟩ : ∃ j, j = min (i + 4) N := ⟨_, rfl⟩
      rw [← hj]
      have hij : i < j := by omega
      have hjn : j ≤ N := by omega
      have hj4 : j ≤ i + 4 := by omega
      obtain ⟨x, hx⟩ : ∃ x, x = U.getD (unitAt k i) ⟨#[]⟩ := ⟨_, rfl⟩
      have hxs : x.size ≤ 1048576 := by rw [hx]; exact HUS.out _ hul
      have HGR : Shut (∀ W : World, GRow k U W w2.heap.size N i → ∀ q mq, q = min (placeIn k i) x.size → mq = min (x.extract q x.size).size (j - i) → GRow k U (W.setCells w2.heap.size i (((x.extract q x.size).data.toList.map fun c => Value.int .u8 (c.toNat : Int)).take mq)) w2.heap.size N j) := ⟨fun W hW q mq hq hmq => hW.copy hk3 hi4 (by omega) hj4 hjn hx hq hmq⟩
      have HX := Shut.mk (HU.out.2 (unitAt k i) hul)
      rw [← hx] at HX
      have hpl : placeIn k i ≤ 40 := by
        have h1 : i % (k * 8) < k * 8 := Nat.mod_lt _ (by omega)
        have h2 : i % (k * 8) / 4 / k ≤ 8 := Nat.le_trans (Nat.div_le_self _ _) (by omega)
        unfold placeIn; omega
      clear hx
      generalize unitAt k i = u at *
      generalize placeIn k i = pl at *
      have u0 : (0 : Int) ≤ (u : Int) := by omega
      have u1 : (u : Int) < (k : Int) := by omega
      have i0' : (0 : Int) ≤ (i : Int) := by omega
      have ij' : (i : Int) ≤ (j : Int) := by omega
      have jn' : (j : Int) ≤ (N : Int) := by omega
      have HJ := Shut.mk hj
      have HFB : Shut (N ≤ i + 4 + 4 * f') := ⟨hfu'⟩
      clear hj hfu' hfu hlt hi0 hz0 hz1 hz2
      have hgl : w2.heap.size < wt.heap.size := HRT.out.1
      have HC4 := Shut.mk (C4.new wt i j u pl 48)
      unfold cellV
      go_upto_region 8 with fail
      obtain ⟨wa, hwa⟩ : ∃ wa, wa = wt.alloc (.cells #[.int .i64 (i : Nat), .int .i64 (j : Nat), .int .i64 (u : Nat), .int .i64 (pl : Nat)] 48) := ⟨_, rfl⟩
      rw [← hwa] at HC4 ⊢
      have HRA : Shut (GRow k U wa w2.heap.size N i) := ⟨by rw [hwa]; exact HRT.out.below ((Below.refl _ _).alloc (Nat.le_refl _) _)⟩
      have HBA : Shut (Below w2.heap.size w2 wa) := ⟨by rw [hwa]; exact (HBT.out.alloc HBT.out.size _)⟩
      have HCA : Shut (wa.heap[gc]? = some (.chan 32 (cellsK k N f' (i + 4)).toArray true mm (r + 1) false)) := ⟨by rw [hwa]; exact chan_alloc HCT.out⟩
      clear hwa HRT HBT HCT
      generalize wt.heap.size = gl at *
      have HGL : Shut (gl ≠ w2.heap.size) := ⟨by omega⟩
      have yU := (HBA.out.cell (p := ⟨b2, o2 + u, none⟩) HU.out.1).trans HX.out
      obtain ⟨y0, y1, y2, y3⟩ := HC4.out
      clear HX
      go_wp2_with fail
      have HC := Shut.mk (fun (j' : Nat) (hj' : j' < N) => HRA.out.2 j' hj')
      have KC : ∀ T : ByteArray, ∀ j', j' < min T.size (j - i) → (wa.drew.cell? ⟨w2.heap.size, i + j', none⟩).isSome = true := fun T j' hj' => by rw [show wa.drew.cell? ⟨w2.heap.size, i + j', none⟩ = wa.cell? ⟨w2.heap.size, i + j', none⟩ from rfl, (HC.out (i + j') (by omega)).1]; rfl
      have KF : ∀ T : ByteArray, ∀ j', j' < min T.size (j - i) → wa.drew.frozen? ⟨w2.heap.size, i + j', none⟩ = false := fun T j' hj' => (HC.out (i + j') (by omega)).2
      have HKC := Shut.mk KC
      have HKF := Shut.mk KF
      have HFIN : Shut (∀ q mq, q = min pl x.size → mq = min (x.extract q x.size).size (j - i) → ∀ W, W = wa.drew.setCells w2.heap.size i (((x.extract q x.size).data.toList.map fun c => Value.int .u8 (c.toNat : Int)).take mq) → W.heap[gc]? = some (.chan 32 (cellsK k N f' (i + 4)).toArray true mm (r + 1) false) ∧ GRow k U W w2.heap.size N (min (i + 4) N) ∧ Below w2.heap.size w2 W) := ⟨fun q mq hq hmq W hW => by
        subst hW
        refine ⟨(heap_setCells (fun e => hne e.symm) _ _ _).trans HCA.out, ?_, below_setCells (Nat.le_refl _) _ _ _ (Below.drew HBA.out)⟩
        rw [← HJ.out]
        exact HGR.out wa.drew (HRA.out.aside rfl rfl) q mq hq hmq⟩
      clear HC KC KF HGR HRA HBA HCA
      obtain ⟨q, hqn⟩ : ∃ q, q = min pl x.size := ⟨_, rfl⟩
      have a2 : (q : Int) ≤ (x.size : Int) := by omega
      have a3 : (0 : Int) ≤ (q : Int) := by omega
      have a4 : min (pl : Int) (x.size : Int) = (q : Int) := by omega
      have HQ := Shut.mk hqn
      clear hqn
      go_region_held3 (fun w' => w'.cell? ⟨gl, 0, none⟩ = some (.int .i64 (i : Nat)) ∧ w'.cell? ⟨gl, 1, none⟩ = some (.int .i64 (j : Nat)) ∧ w'.cell? ⟨gl, 2, none⟩ = some (.int .i64 (u : Nat)) ∧ w'.cell? ⟨gl, 3, none⟩ = some (.int .i64 (pl : Nat)))
        (first | assumption | (exact HC4.out) | (exact C4.sets (w := wa.drew) HC4.out _ _ _ HGL.out))
        (first | (refine step_copy_cut (by rfl) _ _ _ _ (by rfl) 5 Tw.underlying22 (by simp) w2.heap.size i (j - i) (N - i) (by first | rfl | (simp [Act.eval]; omega)) (x.extract q x.size) (by rfl) (HKC.out _) (HKF.out _) ?_))
      all_goals
        obtain ⟨F1, F2, F3⟩ := HFIN.out q _ HQ.out rfl _ rfl
        generalize wa.drew.setCells w2.heap.size i _ = W at F1 F2 F3 ⊢
        have G1 := Shut.mk F1
        have G2 := Shut.mk F2
        have G3 := Shut.mk F3
        clear F1 F2 F3
        go_wp2_with fail
        exact ⟨⟨i + 4, f', r + 1, by omega, HFB.out, G1, G2, G3⟩, by rw [chLeft_is G1.out, HLE.out]; simp⟩
    · have e0 : cellsK k N f i = [] := cellsK_none (by omega) f
      have hchv := hch.out
      rw [e0] at hchv
      rw [Nat.min_eq_right (show N ≤ i by omega)] at hrow
      refine wp_shut (slot := 42) (pair := 43) (flag := 44) (c := gc) (twRc (by kernel_rfl) (by kernel_rfl) (by kernel_rfl)) (by rfl) (by simp) hchv ?_
      have hcv := hrow.out.text (Nat.le_refl _)
      clear hrow hch hchv e0
      go_wp2_with fail
      go_ret2
      exact ⟨rfl, hbo.out⟩
end Go.Proofs.YtfhcpehfmecpjaaT
/- A text that is cut to units and joined of them again (plain). Nothing of the program is read here. -/
namespace Go.Proofs.YtfhcpehfmecpjaaT
open Go.RowKit

def inUnit (k n u : Nat) : List Nat := (List.range n).filter fun j => decide (unitAt k j = u)
def chkPlace (k : Nat) : Bool := (List.range (k * 8 + 1)).all fun n => (List.range n).all fun i => (inUnit k n (unitAt k i))[placeIn k i]? == some i
def chkSize (k : Nat) : Bool := (List.range (k * 8 + 1)).all fun n => (List.range k).all fun u => decide ((inUnit k n u).length ≤ 8)
def chkSum (k : Nat) : Bool := (List.range (k * 8 + 1)).all fun n => decide (((List.range k).map fun u => (inUnit k n u).length).sum = n)
theorem place_2 : chkPlace 2 = true := by decide +kernel
theorem place_3 : chkPlace 3 = true := by decide +kernel
theorem place_4 : chkPlace 4 = true := by decide +kernel
theorem size_2 : chkSize 2 = true := by decide +kernel
theorem size_3 : chkSize 3 = true := by decide +kernel
theorem size_4 : chkSize 4 = true := by decide +kernel
theorem sum_2 : chkSum 2 = true := by decide +kernel
theorem sum_3 : chkSum 3 = true := by decide +kernel
theorem sum_4 : chkSum 4 = true := by decide +kernel
theorem sch_k {s : Int} (h : schOk s = true) : schK s = 2 ∨ schK s = 3 ∨ schK s = 4 := by
  have := sch_bounds h; omega
theorem place_all {k n i : Nat} (hk : k = 2 ∨ k = 3 ∨ k = 4) (hn : n ≤ k * 8) (hi : i < n) : (inUnit k n (unitAt k i))[placeIn k i]? = some i := by
  have h : chkPlace k = true := by
    rcases hk with rfl | rfl | rfl
    · exact place_2
    · exact place_3
    · exact place_4
  unfold chkPlace at h
  simp only [List.all_eq_true, List.mem_range, beq_iff_eq] at h
  exact h n (by omega) i hi
theorem size_all {k n u : Nat} (hk : k = 2 ∨ k = 3 ∨ k = 4) (hn : n ≤ k * 8) (hu : u < k) : (inUnit k n u).length ≤ 8 := by
  have h : chkSize k = true := by
    rcases hk with rfl | rfl | rfl
    · exact size_2
    · exact size_3
    · exact size_4
  unfold chkSize at h
  simp only [List.all_eq_true, List.mem_range, decide_eq_true_eq] at h
  exact h n (by omega) u hu
theorem sum_all {k n : Nat} (hk : k = 2 ∨ k = 3 ∨ k = 4) (hn : n ≤ k * 8) : ((List.range k).map fun u => (inUnit k n u).length).sum = n := by
  have h : chkSum k = true := by
    rcases hk with rfl | rfl | rfl
    · exact sum_2
    · exact sum_3
    · exact sum_4
  unfold chkSum at h
  simp only [List.all_eq_true, List.mem_range, decide_eq_true_eq] at h
  exact h n (by omega)
theorem unitB_list (k : Nat) (t : ByteArray) (n u : Nat) : (unitB k t n u).data.toList = (inUnit k n u).map fun j => t.data.toList.getD j 0 := rfl
theorem unitB_len (k : Nat) (t : ByteArray) (n u : Nat) : (unitB k t n u).size = (inUnit k n u).length := by
  show (List.map _ _).toArray.size = _
  rw [List.size_toArray, List.length_map]; rfl
theorem joinAt_cut {k n i : Nat} {t : ByteArray} (hk : k = 2 ∨ k = 3 ∨ k = 4) (hn : n ≤ k * 8) (hi : i < n) : joinAt k (cutL k t n) i = t.data.toList.getD i 0 := by
  unfold joinAt
  rw [cutL_at (unit_lt (by omega) i), unitB_list, List.getD_eq_getElem?_getD, List.getElem?_map, place_all hk hn hi]
  rfl
theorem joinL_cut {k n m : Nat} {t : ByteArray} (hk : k = 2 ∨ k = 3 ∨ k = 4) (hn : n ≤ k * 8) (hm : m ≤ n) (ht : n = t.size) : (⟨(joinL k (cutL k t n) m).toArray⟩ : ByteArray) = t.extract 0 m := by
  apply ByteArray.ext
  simp only [ByteArray.data_extract]
  have hts : t.data.size = n := ht.symm
  apply Array.ext
  · simp [joinL]; omega
  · intro j h1 h2
    have hj : j < m := by simpa [joinL] using h1
    simp only [joinL, List.getElem_toArray, List.getElem_map, List.getElem_range]
    rw [joinAt_cut hk hn (by omega), Array.getElem_extract, List.getD_eq_getElem?_getD, Array.getElem?_toList, Array.getElem?_eq_getElem (by omega : j < t.data.size), Option.getD_some]
    congr 1
    omega
theorem cut_ok {s : Int} {t : ByteArray} (h : schOk s = true) (ht : t.size ≤ groupN s) : cutX s t = (cutL (schK s) t t.size, true) := if_pos ⟨h, ht⟩
/-- A text that was cut, or any beginning of it, is joined of its units again. -/
theorem join_cut {s : Int} {t : ByteArray} (h : schOk s = true) (ht : t.size ≤ groupN s) {m : Nat} (hm : m ≤ t.size) : joinX s (cutX s t).1 (m : Int) = (t.extract 0 m, true) := by
  rw [cut_ok h ht]
  unfold joinX
  rw [if_pos ⟨h, cutL_len _ _ _, by omega, by omega⟩]
  rw [Int.toNat_natCast, joinL_cut (sch_k h) ht hm rfl]
theorem cut_sizes {s : Int} {t : ByteArray} (h : schOk s = true) (ht : t.size ≤ groupN s) : ∀ x ∈ (cutX s t).1, x.size ≤ 8 := by
  rw [cut_ok h ht]
  intro x hx
  obtain ⟨u, hu, rfl⟩ := List.mem_map.1 hx
  rw [unitB_len]
  exact size_all (sch_k h) ht (List.mem_range.1 hu)
theorem cut_sum {s : Int} {t : ByteArray} (h : schOk s = true) (ht : t.size ≤ groupN s) : ((cutX s t).1.map ByteArray.size).sum = t.size := by
  rw [cut_ok h ht]
  show ((List.map _ _).map _).sum = _
  rw [List.map_map]
  have : (ByteArray.size ∘ unitB (schK s) t t.size) = fun u => (inUnit (schK s) t.size u).length := by
    funext u
    exact unitB_len _ _ _ _
  rw [this]
  exact sum_all (sch_k h) ht
end Go.Proofs.YtfhcpehfmecpjaaT
/- The draws of the models: a cursor over the bytes of a code. What is drawn lies within its bounds; nothing but the cursor's own block is turned. -/
namespace Go.Proofs.YtfhcpehfmecpjaaT
open Go.RowKit
attribute [local go_sem ↓] Go.wp_at_zero Go.wp_at_succ

/-- The code that is drawn from: a slice of bytes that came in, below block B. -/
def CodeAt (w : World) (B : Nat) (a : Option Addr) (len : Nat) : Prop :=
  len ≤ 1048576 ∧ (0 < len → ∃ b off, a = some ⟨b, off, none⟩ ∧ b < B ∧ ∀ j, j < len → ∃ x : Int, w.cell? ⟨b, off + j, none⟩ = some (.int .u8 x) ∧ 0 ≤ x ∧ x ≤ 255)
/-- The cursor in block g. -/
def Cur (w : World) (g B : Nat) (a : Option Addr) (len cap : Nat) : Prop :=
  B ≤ g ∧ g < w.heap.size ∧ CodeAt w B a len ∧ w.cell? ⟨g, 0, none⟩ = some (.slice a len cap) ∧
  (∃ i : Nat, w.cell? ⟨g, 1, none⟩ = some (.int .i64 i) ∧ i ≤ len) ∧ (∃ h : Int, w.cell? ⟨g, 2, none⟩ = some (.int .i64 h)) ∧
  (∀ j, j < 3 → w.frozen? ⟨g, j, none⟩ = false)
def BytePost (w : World) (g B : Nat) (a : Option Addr) (len cap : Nat) (e : Ending) (w' : World) : Prop :=
  ∃ x : Int, e = .returned (.int .i64 x) ∧ 0 ≤ x ∧ x ≤ 255 ∧ Cur w' g B a len cap ∧ w.grownBy w' (some g)

theorem and255 (n : Int) : 0 ≤ bits .and .i64 n 255 ∧ bits .and .i64 n 255 ≤ 255 := by
  have h255 : (BitVec.ofInt 64 255).toNat = 2 ^ 8 - 1 := by decide
  have key : (BitVec.ofInt 64 n &&& BitVec.ofInt 64 255).toNat = (n % ((2 ^ 64 : Nat) : Int)).toNat % 2 ^ 8 := by
    rw [BitVec.toNat_and, BitVec.toNat_ofInt, h255, Nat.and_two_pow_sub_one_eq_mod]
  have e : bits .and .i64 n 255 = n % 256 := by
    show IntKind.i64.wrap ((BitVec.ofInt 64 n &&& BitVec.ofInt 64 255).toNat : Nat) = n % 256
    rw [key, IntKind.wrap_i64]
    omega
  rw [e]; omega
theorem gb_set (w : World) (g i : Nat) (v : Value) : w.grownBy (w.setCell ⟨g, i, none⟩ v) (some g) :=
  ⟨rfl, rfl, rfl, by simp [World.setCell], fun k _ hk => Below.heap_setCell _ _ _ _ (fun e => hk (by rw [e]))⟩
theorem gb_drewN (w : World) (q : Nat) (row : Option Nat) : w.grownBy (w.drewN q) row := ⟨rfl, rfl, rfl, Nat.le_refl _, fun _ _ _ => rfl⟩
theorem gb_two {a b c : World} {row : Option Nat} (h : a.grownBy b row) (k : b.grownBy c row) : a.grownBy c row :=
  ⟨k.os.trans h.os, k.tape.trans h.tape, k.output.trans h.output, Nat.le_trans h.size k.size, fun i hi hn => (k.block i (Nat.lt_of_lt_of_le hi h.size) hn).trans (h.block i hi hn)⟩
theorem gb_below {w w' : World} {row : Option Nat} (h : Below w.heap.size w w') : w.grownBy w' row := ⟨h.os, h.tape, h.output, h.size, fun k hk _ => h.block k hk⟩
theorem below_gb {w w' : World} {g B : Nat} (h : w.grownBy w' (some g)) (hB : B ≤ g) (hs : B ≤ w.heap.size) : Below B w w' :=
  ⟨h.os, h.tape, h.output, h.size, fun k hk => h.block k (by omega) (by simp; omega)⟩
theorem CodeAt.gb {w w' : World} {B g len : Nat} {a : Option Addr} (h : CodeAt w B a len) (hg : w.grownBy w' (some g)) (hB : B ≤ g) : CodeAt w' B a len := by
  refine ⟨h.1, fun hl => ?_⟩
  obtain ⟨b, off, rfl, hb, hx⟩ := h.2 hl
  refine ⟨b, off, rfl, hb, fun j hj => ?_⟩
  obtain ⟨x, hc, h0, h1⟩ := hx j hj
  exact ⟨x, hg.cell hc (by simp; omega), h0, h1⟩
theorem CodeAt.below {w w' : World} {B C len : Nat} {a : Option Addr} (h : CodeAt w B a len) (hb : Below C w w') (hC : B ≤ C) : CodeAt w' B a len := by
  refine ⟨h.1, fun hl => ?_⟩
  obtain ⟨b, off, rfl, hlt, hx⟩ := h.2 hl
  refine ⟨b, off, rfl, hlt, fun j hj => ?_⟩
  obtain ⟨x, hc, h0, h1⟩ := hx j hj
  exact ⟨x, (hb.cell (p := ⟨b, off + j, none⟩) (Nat.lt_of_lt_of_le hlt hC)).trans hc, h0, h1⟩
/-- New blocks, and what turns none of the cursor's: the cursor stands. -/
theorem Cur.below {w w' : World} {g B len cap : Nat} {a : Option Addr} (h : Cur w g B a len cap) (hb : Below w.heap.size w w') : Cur w' g B a len cap := by
  obtain ⟨hB, hg, hcode, c0, ⟨i, c1, hi⟩, ⟨k, c2⟩, hf⟩ := h
  exact ⟨hB, Nat.lt_of_lt_of_le hg hb.size, hcode.below hb (by omega), (hb.cell (p := ⟨g, 0, none⟩) hg).trans c0, ⟨i, (hb.cell (p := ⟨g, 1, none⟩) hg).trans c1, hi⟩, ⟨k, (hb.cell (p := ⟨g, 2, none⟩) hg).trans c2⟩,
    fun j hj => (hb.frozen (p := ⟨g, j, none⟩) hg).trans (hf j hj)⟩
theorem Cur.seth {w : World} {g B len cap : Nat} {a : Option Addr} (h : Cur w g B a len cap) (k : Int) : Cur (w.setCell ⟨g, 2, none⟩ (.int .i64 k)) g B a len cap := by
  obtain ⟨hB, hg, hcode, c0, ⟨i, c1, hi⟩, ⟨k', c2⟩, hf⟩ := h
  exact ⟨hB, by simpa [World.setCell] using hg, hcode.gb (gb_set _ _ _ _) hB, (World.cell?_setCell_other _ _ _ _ (by simp)).trans c0, ⟨i, (World.cell?_setCell_other _ _ _ _ (by simp)).trans c1, hi⟩, ⟨k, World.cell?_setCell_same _ _ _ c2⟩,
    fun j hj => (World.frozen?_setCell _ _ _ _).trans (hf j hj)⟩
theorem Cur.seti {w : World} {g B len cap : Nat} {a : Option Addr} (h : Cur w g B a len cap) (i : Nat) (hi : i ≤ len) : Cur (w.setCell ⟨g, 1, none⟩ (.int .i64 i)) g B a len cap := by
  obtain ⟨hB, hg, hcode, c0, ⟨i', c1, _⟩, ⟨k, c2⟩, hf⟩ := h
  exact ⟨hB, by simpa [World.setCell] using hg, hcode.gb (gb_set _ _ _ _) hB, (World.cell?_setCell_other _ _ _ _ (by simp)).trans c0, ⟨i, World.cell?_setCell_same _ _ _ c1, hi⟩, ⟨k, (World.cell?_setCell_other _ _ _ _ (by simp)).trans c2⟩,
    fun j hj => (World.frozen?_setCell _ _ _ _).trans (hf j hj)⟩
theorem drewN_bel (B : Nat) (w : World) (q : Nat) : Below B w (w.drewN q) := ⟨rfl, rfl, rfl, Nat.le_refl _, fun _ _ => rfl⟩
theorem byte_more {w : World} {g B len cap i : Nat} {a : Option Addr} (h : Cur w g B a len cap) (hi : i < len) (k : Int) (q : Nat) (y : Int) (hy : y = ((i + 1 : Nat) : Int)) (x : Int) (h0 : 0 ≤ x) (h1 : x ≤ 255) :
    BytePost w g B a len cap (.returned (.int .i64 x)) (((w.setCell ⟨g, 2, none⟩ (.int .i64 k)).drewN q).setCell ⟨g, 1, none⟩ (.int .i64 y)) := by
  subst hy
  exact ⟨x, rfl, h0, h1, (((h.seth k).below (drewN_bel _ _ _)).seti (i + 1) (by omega)), gb_two (gb_two (gb_set _ _ _ _) (gb_drewN _ _ _)) (gb_set _ _ _ _)⟩
theorem byte_over2 {w : World} {g B len cap : Nat} {a : Option Addr} (h : Cur w g B a len cap) (k : Int) (q q' : Nat) (x : Int) (h0 : 0 ≤ x) (h1 : x ≤ 255) :
    BytePost w g B a len cap (.returned (.int .i64 x)) (((w.setCell ⟨g, 2, none⟩ (.int .i64 k)).drewN q).drewN q') :=
  ⟨x, rfl, h0, h1, (((h.seth k).below (drewN_bel _ _ _)).below (drewN_bel _ _ _)), gb_two (gb_two (gb_set _ _ _ _) (gb_drewN _ _ _)) (gb_drewN _ _ _)⟩

set_option maxHeartbeats 1000000 in
theorem l01Byte_any (w : World) (g B : Nat) (a : Option Addr) (len cap : Nat) (hc : Cur w g B a len cap) :
    Calls Tw.prog 26 #[.pointer (some ⟨g, 0, none⟩)] w fun e w' => BytePost w g B a len cap e w' := by
  have HC : Hid (Cur w g B a len cap) := hc
  obtain ⟨hB, hg, hcode, c0, ⟨i, c1, hi⟩, ⟨h, c2⟩, hf⟩ := hc
  have f1 := hf 1 (by omega)
  have f2 := hf 2 (by omega)
  have hl := hcode.1
  by_cases hlt : i < len
  · obtain ⟨b, off, rfl, hb, hcx⟩ := hcode.2 (by omega)
    obtain ⟨x, c3, x0, x1⟩ := hcx i hlt
    have i0 : (0 : Int) ≤ (i : Int) := by omega
    have i1 : (i : Int) < (len : Int) := by omega
    have hne : b ≠ g := by omega
    clear hcode hf hcx
    go_enter Tw.func26, Tw.ntmps26
    go_wp2_with fail
    go_quiet (fail)
    go_wp2_with fail
    go_quiet (fail)
    go_wp2_with fail
    go_quiet (fail)
    go_wp2_with fail
    go_ret
    exact byte_more HC.out hlt _ _ _ (by first | omega | (simp only [wrap64]; omega)) _ (and255 _).1 (and255 _).2
  · have i1 : decide ((i : Int) < (len : Int)) = false := by simp; omega
    clear hcode hf
    go_enter Tw.func26, Tw.ntmps26
    go_wp2_with fail
    go_quiet (fail)
    go_wp2_with fail
    go_quiet (fail)
    go_wp2_with fail
    go_ret
    exact byte_over2 HC.out _ _ _ _ (and255 _).1 (and255 _).2

def BelowPost (w : World) (g B : Nat) (a : Option Addr) (len cap : Nat) (n : Int) (e : Ending) (w' : World) : Prop :=
  ∃ x : Int, e = .returned (.int .i64 x) ∧ 0 ≤ x ∧ (x < n ∨ x = 0) ∧ Cur w' g B a len cap ∧ w.grownBy w' (some g)
set_option maxHeartbeats 1000000 in
theorem l01Below_any (w : World) (g B : Nat) (a : Option Addr) (len cap : Nat) (n : Int) (hn : n ≤ 9223372036854775807) (hc : Cur w g B a len cap) :
    Calls Tw.prog 19 #[.pointer (some ⟨g, 0, none⟩), .int .i64 n] w fun e w' => BelowPost w g B a len cap n e w' := by
  have HC : Hid (Cur w g B a len cap) := hc
  clear hc
  by_cases h0 : n ≤ 0
  · go_enter Tw.func19, Tw.ntmps19
    go_wp2_with fail
    go_ret
    exact ⟨0, rfl, by omega, .inr rfl, HC.out, gb_drewN w 0 _⟩
  · by_cases h1 : n ≤ 256
    · have hnz : (n == 0) = false := by rw [beq_eq_false_iff_ne]; omega
      go_enter Tw.func19, Tw.ntmps19
      go_wp2_with fail
      refine (l01Byte_any _ g B a len cap HC.out).mono ?_
      rintro e w1 ⟨x, rfl, x0, x1, hc1, hg1⟩
      have HC1 : Hid (Cur w1 g B a len cap) := hc1
      have HG : Hid _ := hg1
      clear hc1 hg1
      go_wp2_with fail
      go_ret
      exact ⟨x % n, rfl, Int.emod_nonneg _ (by omega), .inl (Int.emod_lt_of_pos _ (by omega)), HC1.out, HG.out⟩
    · go_enter Tw.func19, Tw.ntmps19
      go_wp2_with fail
      refine (l01Byte_any _ g B a len cap HC.out).mono ?_
      rintro e w1 ⟨x, rfl, x0, x1, hc1, hg1⟩
      have HC1 : Hid (Cur w1 g B a len cap) := hc1
      have HG1 : Hid (w.grownBy w1 (some g)) := hg1
      clear hc1 hg1
      go_wp2_with fail
      refine (l01Byte_any _ g B a len cap HC1.out).mono ?_
      rintro e w2 ⟨y, rfl, y0, y1, hc2, hg2⟩
      have HC2 : Hid (Cur w2 g B a len cap) := hc2
      have HG2 : Hid (w.grownBy w2 (some g)) := gb_two HG1.out hg2
      clear hc2 hg2
      go_wp2_with fail
      refine (l01Byte_any _ g B a len cap HC2.out).mono ?_
      rintro e w3 ⟨z, rfl, z0, z1, hc3, hg3⟩
      have HC3 : Hid (Cur w3 g B a len cap) := hc3
      have HG3 : Hid (w.grownBy w3 (some g)) := gb_two HG2.out hg3
      clear hc3 hg3
      go_wp2_with fail
      refine (l01Byte_any _ g B a len cap HC3.out).mono ?_
      rintro e w4 ⟨u, rfl, u0, u1, hc4, hg4⟩
      have HC4 : Hid (Cur w4 g B a len cap) := hc4
      have HG4 : Hid (w.grownBy w4 (some g)) := gb_two HG3.out hg4
      clear hc4 hg4
      go_wp2_with fail
      go_ret
      exact ⟨(x * 16777216 + y * 65536 + z * 256 + u) % n, rfl, Int.emod_nonneg _ (by omega), .inl (Int.emod_lt_of_pos _ (by omega)), HC4.out, HG4.out⟩
end Go.Proofs.YtfhcpehfmecpjaaT
/- The draws of the models, on: a new cursor, a text that is drawn, a long one, a choice. -/
namespace Go.Proofs.YtfhcpehfmecpjaaT
open Go.RowKit

def NewPost (w : World) (a : Option Addr) (len cap : Nat) (e : Ending) (w' : World) : Prop :=
  ∃ g, e = .returned (.pointer (some ⟨g, 0, none⟩)) ∧ w.heap.size ≤ g ∧ Cur w' g w.heap.size a len cap ∧ Below w.heap.size w w'
theorem new_post {w : World} {a : Option Addr} {len cap : Nat} (hc : CodeAt w w.heap.size a len) (h : Int) :
    NewPost w a len cap (.returned (.pointer (some ⟨w.heap.size, 0, none⟩))) (w.alloc (.cells #[.slice a len cap, .int .i64 0, .int .i64 h] 56)) := by
  have hb : Below w.heap.size w (w.alloc (.cells #[.slice a len cap, .int .i64 0, .int .i64 h] 56)) := (Below.refl _ _).alloc (Nat.le_refl _) _
  refine ⟨_, rfl, Nat.le_refl _, ⟨Nat.le_refl _, by simp, hc.below hb (Nat.le_refl _), ?_, ⟨0, ?_, Nat.zero_le _⟩, ⟨h, ?_⟩, fun j hj => ?_⟩, hb⟩
  · rw [World.cell?_alloc_mark]; rfl
  · rw [World.cell?_alloc_mark]; rfl
  · rw [World.cell?_alloc_mark]; rfl
  · rw [World.frozen?_alloc_mark]; simp

set_option maxRecDepth 100000 in
set_option maxHeartbeats 1000000 in
theorem l01New_any (w : World) (a : Option Addr) (len cap : Nat) (hc : CodeAt w w.heap.size a len) :
    Calls Tw.prog 18 #[.slice a len cap] w fun e w' => NewPost w a len cap e w' := by
  have hl := hc.1
  go_enter Tw.func18, Tw.ntmps18
  go_wp2_with fail
  go_loop [3, 4] (fun h i => ∃ (k : Nat) (hh : Int), h = .int .i64 hh ∧ i = .int .i64 k ∧ k ≤ len) (fun _ i => len - (intOf i).toNat)
  case atStart => exact ⟨0, _, rfl, rfl, Nat.zero_le _⟩
  case round =>
    obtain ⟨k, hh, rfl, rfl, hk⟩ := hrel
    by_cases hlt : k < len
    · by_cases h4 : k < 4000
      · obtain ⟨b, off, rfl, hb, hx⟩ := hc.2 (by omega)
        obtain ⟨x, cx, x0, x1⟩ := hx k hlt
        have k0 : (0 : Int) ≤ (k : Int) := by omega
        have k1 : (k : Int) < (len : Int) := by omega
        clear hx
        go_wp2_with fail
        go_round
        case rel => exact ⟨k + 1, _, rfl, by go_num, by omega⟩
        case measure => simp [intOf]; omega
      · have h4' : ¬ (k : Int) < 4000 := by omega
        go_wp2_with fail
        go_ret
        exact new_post hc _
    · go_wp2_with fail
      go_ret
      exact new_post hc _

def OncePost (w : World) (g B : Nat) (a : Option Addr) (len cap : Nat) (e : Ending) (w' : World) : Prop :=
  ∃ b : Bool, e = .returned (.bool b) ∧ Cur w' g B a len cap ∧ w.grownBy w' (some g)
def TextPost (w : World) (g B : Nat) (a : Option Addr) (len cap : Nat) (n : Nat) (e : Ending) (w' : World) : Prop :=
  ∃ t : ByteArray, e = .returned (.string t) ∧ t.size ≤ n ∧ Cur w' g B a len cap ∧ w.grownBy w' (some g)
def TextIs (w : World) (g B : Nat) (a : Option Addr) (len cap : Nat) (n : Nat) (e : Ending) (w' : World) : Prop :=
  ∃ t : ByteArray, e = .returned (.string t) ∧ t.size = n ∧ Cur w' g B a len cap ∧ w.grownBy w' (some g)
theorem text_step {w wr w2 w3 : World} {g B len cap : Nat} {a : Option Addr} {v v' : Value} {l : List UInt8} {x : Int} {o : Obj} (x0 : 0 ≤ x) (x1 : x ≤ 255) (hs : w.heap.size ≤ wr.heap.size) (hgw : g < w.heap.size)
    (hg : w.grownBy wr (some g)) (hg2 : wr.grownBy w2 (some g)) (hc2 : Cur w2 g B a len cap) (hown : w2.ownsRow w.heap.size 5 1 v l.length (bv l))
    (hown' : w3.ownsRow w.heap.size 5 1 v' (l.length + 1) (bv l ++ [.int .u8 x])) (hgr : (w2.alloc o).grownBy w3 v.ownBlock) :
    Cur w3 g B a len cap ∧ w.grownBy w3 (some g) ∧ w3.ownsRow w.heap.size 5 1 v' (l ++ [UInt8.ofNat x.toNat]).length (bv (l ++ [UInt8.ofNat x.toNat])) := by
  have hlt := hown.lt
  have h2s : wr.heap.size ≤ w2.heap.size := hg2.size
  have hb3 : Below w.heap.size w2 w3 := ((Below.refl _ _).alloc (by omega) o).grown hgr (by simp; omega) (fun j hj => (hlt j hj).1)
  refine ⟨?_, ⟨(hb3.os.trans hg2.os).trans hg.os, (hb3.tape.trans hg2.tape).trans hg.tape, (hb3.output.trans hg2.output).trans hg.output, by have := hb3.size; omega, fun k hk hn => (hb3.block k hk).trans ((hg2.block k (by omega) hn).trans (hg.block k hk hn))⟩, ?_⟩
  · obtain ⟨hB, hgs, hcode, c0, ⟨i, c1, hi⟩, ⟨k, c2⟩, hf⟩ := hc2
    refine ⟨hB, by have := hb3.size; omega, hcode.below hb3 (by omega), (hb3.cell (p := ⟨g, 0, none⟩) hgw).trans c0, ⟨i, (hb3.cell (p := ⟨g, 1, none⟩) hgw).trans c1, hi⟩, ⟨k, (hb3.cell (p := ⟨g, 2, none⟩) hgw).trans c2⟩, fun j hj => (hb3.frozen (p := ⟨g, j, none⟩) hgw).trans (hf j hj)⟩
  · rw [byte_of x x0 (by omega), bv_snoc] at hown'
    simpa using hown'
theorem own_gb {w w' : World} {g C : Nat} {v : Value} {l : List UInt8} (h : w.ownsRow C 5 1 v l.length (bv l)) (hg : w.grownBy w' (some g)) (hC : g < C) : w'.ownsRow C 5 1 v l.length (bv l) :=
  h.kept hg (by
    cases hv : v.ownBlock with
    | none => exact .inl rfl
    | some j => right; have := (h.lt j hv).1; simp; omega)

set_option maxHeartbeats 1000000 in
theorem l01Text_len (w : World) (g B : Nat) (a : Option Addr) (len cap : Nat) (n : Nat) (hn : n ≤ 5000) (hc : Cur w g B a len cap) :
    Calls Tw.prog 20 #[.pointer (some ⟨g, 0, none⟩), .int .i64 n] w fun e w' => TextIs w g B a len cap n e w' := by
  obtain ⟨i0, hi, hz0, hz1, hz2⟩ := info_parts Tw.info5
  have hgw := hc.2.1
  have HC : Hid (Cur w g B a len cap) := hc
  clear hc
  have hnd : decide ((5000 : Int) < n) = false := by simp; omega
  go_enter Tw.func20, Tw.ntmps20
  go_wp2_with fail
  go_loopw [5, 6] (fun v i wr => ∃ (k : Nat) (l : List UInt8), i = .int .i64 k ∧ k ≤ n ∧ l.length = k ∧ Cur wr g B a len cap ∧ w.grownBy wr (some g) ∧ wr.ownsRow w.heap.size 5 1 v l.length (bv l)) (fun _ i _ => n - (intOf i).toNat)
  case atStart => exact ⟨0, [], rfl, by omega, rfl, HC.out.below ((Below.refl _ _).alloc (Nat.le_refl _) _), gb_below ((Below.refl _ _).alloc (Nat.le_refl _) _), World.ownsRow_made w #[] 0 (Nat.le_refl _) (by decide) rfl⟩
  case round =>
    obtain ⟨k, l, rfl, hk, hlk, hc1, hg1, hown⟩ := hrel
    have HC1 : Hid (Cur wr g B a len cap) := hc1
    have HG1 : Hid (w.grownBy wr (some g)) := hg1
    have HL : Hid (l.length = k) := hlk
    have hll : l.length ≤ 5000 := by omega
    have hs1 := hg1.size
    clear hc1 hg1 hlk
    by_cases hlt : k < n
    · go_wp2_with fail
      refine (l01Byte_any _ g B a len cap HC1.out).mono ?_
      rintro e w2 ⟨x, rfl, x0, x1, hc2, hg2⟩
      have HC2 : Hid (Cur w2 g B a len cap) := hc2
      have HG2 : Hid (wr.grownBy w2 (some g)) := hg2
      have hown2 := own_gb hown hg2 hgw
      have hs2 := hg2.size
      clear hc2 hg2 hown
      go_wp2_with (at_builtin; refine wpList_append_own _ rfl _ _ 22 rfl w.heap.size 5 i0 (.int .u8 0) 1 1 Tw.underlying22 hi hz0 hz1 hz2 rfl (by decide) _ _ _ rfl (hown2.alloc _) ⟨w2.heap.size, 0, none⟩ 1 1 [.int .u8 _] rfl rfl (cell_one_new _ _ _) ?c2 ?c3 ?c4 ?c5 ?_)
      case c2 => first | rfl | (intro u hu; simp at hu; subst hu; rfl)
      case c3 => unfold maxLen; omega
      case c4 => omega
      case c5 => first | omega | (simp; omega)
      · intro v' w3 hown' hgrow _
        obtain ⟨q1, q2, q3⟩ := text_step x0 x1 hs1 hgw HG1.out HG2.out HC2.out hown2 hown' hgrow
        clear hown' hgrow hown2
        go_wp2_with fail
        go_roundw
        case rel => exact ⟨k + 1, _, by go_num, by omega, by have := HL.out; simp; omega, q1, q2, q3⟩
        case measure => simp [intOf]; omega
    · have hcv := own_string hown
      go_wp2_with fail
      go_ret
      exact ⟨⟨l.toArray⟩, rfl, by have := HL.out; show l.length = n; omega, HC1.out, HG1.out⟩
theorem l01Text_any (w : World) (g B : Nat) (a : Option Addr) (len cap : Nat) (n : Nat) (hn : n ≤ 5000) (hc : Cur w g B a len cap) :
    Calls Tw.prog 20 #[.pointer (some ⟨g, 0, none⟩), .int .i64 n] w fun e w' => TextPost w g B a len cap n e w' :=
  (l01Text_len w g B a len cap n hn hc).mono fun _ _ ⟨t, he, hs, h⟩ => ⟨t, he, Nat.le_of_eq hs, h⟩
end Go.Proofs.YtfhcpehfmecpjaaT
/- The draw of a group's text. -/
namespace Go.Proofs.YtfhcpehfmecpjaaT
open Go.RowKit
attribute [local go_sem ↓] Go.wp_at_zero Go.wp_at_succ

/-- A text that is drawn: no longer than its schema's group. -/
def GroupDrawn (w : World) (e : Ending) (w' : World) : Prop :=
  ∃ (x : Nat) (t : ByteArray), e = .returned (.tuple #[.int .i64 (x : Int), .string t]) ∧ schOk (x : Int) = true ∧ t.size ≤ groupN (x : Int) ∧ Below w.heap.size w w'
set_option maxRecDepth 100000 in
set_option maxHeartbeats 1000000 in
theorem drawGroup_any (w : World) (a : Option Addr) (len cap : Nat) (hc : CodeAt w w.heap.size a len) : Calls Tw.prog 7 #[.slice a len cap] w fun e w' => GroupDrawn w e w' := by
  have HC : Hid (CodeAt w w.heap.size a len) := hc
  clear hc
  go_enter Tw.func7, Tw.ntmps7
  go_wp2_with fail
  refine (l01New_any _ a len cap HC.out).mono ?_
  rintro e w0 ⟨g, rfl, hg, hcur, hb0⟩
  have HC0 := Shut.mk hcur
  have HB0 := Shut.mk hb0
  clear hcur hb0
  go_wp2_with fail
  refine (l01Below_any _ g _ a len cap 3 (by omega) HC0.out).mono ?_
  rintro e w1 ⟨x, rfl, x0, x1, hc1, hg1⟩
  obtain ⟨m, rfl⟩ := Int.eq_ofNat_of_zero_le x0
  have HC1 := Shut.mk hc1
  have HB1 := Shut.mk (HB0.out.trans (below_gb hg1 hg HB0.out.size))
  obtain ⟨sc, hsc⟩ : ∃ n : Nat, n = m + 1 := ⟨_, rfl⟩
  have hni : (1 : Int) + (m : Int) = (sc : Int) := by omega
  have hs1 : 1 ≤ sc := by omega
  have hs3 : sc ≤ 3 := by omega
  clear hc1 hg1 HC0 HB0 hsc
  go_wp2_with fail
  have HSK : Shut (schOk (sc : Int) = true) := ⟨by unfold schOk; simp only [Bool.or_eq_true, decide_eq_true_eq]; omega⟩
  have HG := Shut.mk (specGroupSize (sc : Int))
  obtain ⟨G, hG⟩ : ∃ G, G = groupN (sc : Int) := ⟨_, rfl⟩
  have hG2 : G ≤ 32 := by rw [hG]; exact groupN_bounds _
  rw [← hG] at HG
  have HGG := Shut.mk hG
  clear hG
  refine (HG.out _).mono ?_
  rintro e w2 ⟨rfl, hw⟩
  obtain rfl : w1 = w2 := hw.symm
  clear hw
  go_wp2_with fail
  refine (l01Below_any _ g _ a len cap ((G : Int) + 1) (by omega) HC1.out).mono ?_
  rintro e w2 ⟨y, rfl, y0, y1, hc2, hg2⟩
  obtain ⟨n, rfl⟩ := Int.eq_ofNat_of_zero_le y0
  have hn : n ≤ G := by omega
  have HC2 := Shut.mk hc2
  have HB2 := Shut.mk (HB1.out.trans (below_gb hg2 hg HB1.out.size))
  clear hc2 hg2 HC1 HB1
  go_wp2_with fail
  refine (l01Text_any _ g _ a len cap n (by omega) HC2.out).mono ?_
  rintro e w3 ⟨t, rfl, ht, hc3, hg3⟩
  have HB3 := Shut.mk (HB2.out.trans (below_gb hg3 hg HB2.out.size))
  clear hc3 hg3 HC2 HB2
  go_wp2_with fail
  go_ret2
  exact ⟨sc, t, rfl, HSK.out, by rw [← HGG.out]; omega, HB3.out⟩
end Go.Proofs.YtfhcpehfmecpjaaT
