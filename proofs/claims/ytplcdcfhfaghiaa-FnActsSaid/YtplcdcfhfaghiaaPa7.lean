/- Texts of ours, laid one behind the other: DrDk, ImB, ShA, ShB, ImE. -/
import Derived.Test.YtplcdcfhfaghiaaPa6
import Derived.Deep.AppendLies
import Derived.Maps.AppendAt
import Derived.Maps.OwnSet
import Derived.Maps.RangeWalk
/- DrDk: The model's draw of a disk (written by gen/mkdrdk.py). -/
namespace Go.Proofs.Ytplcdcfhfaghiaa
set_option maxRecDepth 100000
open Go.RowKit BigFrame
attribute [local go_sem ↓] Go.wp_at_zero Go.wp_at_succ

/-- A file as it is drawn. -/
def FDk (f : FM) : Prop := f.name.size ≤ 9 ∧ f.text.size ≤ 20001 ∧ -1 ≤ f.kept ∧ f.kept ≤ 20002
structure DG (fs : List FM) (m : Nat) : Prop where
  few : fs.length ≤ m
  all : ∀ f ∈ fs, FDk f
theorem DG.more {fs : List FM} {m k : Nat} (h : DG fs m) (hk : m ≤ k) : DG fs k := ⟨Nat.le_trans h.few hk, h.all⟩
theorem DG.set {fs : List FM} {m k : Nat} (h : DG fs m) {f : FM} (hf : FDk f) : DG (fs.set k f) m := ⟨by rw [List.length_set]; exact h.few, fun x hx => by rcases List.mem_or_eq_of_mem_set hx with q | q; exact h.all x q; rw [q]; exact hf⟩
theorem DG.snoc {fs : List FM} {m : Nat} (h : DG fs m) {f : FM} (hf : FDk f) : DG (fs ++ [f]) (m + 1) := ⟨by rw [List.length_append]; have := h.few; simp; omega, fun x hx => by rcases List.mem_append.1 hx with q | q; exact h.all x q; rw [List.mem_singleton.1 q]; exact hf⟩
theorem DG.put {fs : List FM} {m : Nat} (h : DG fs m) (hs : UpN fs) {f : FM} (hf : FDk f) : DG (putF f fs) (m + 1) :=
  ⟨by rw [put_len hs]; have := without_len f.name fs; have := h.few; omega, fun x hx => by rcases mem_putF.1 hx with q | ⟨q, _⟩; rw [q]; exact hf; exact h.all x q⟩
theorem fcs_set (fs : List FM) (k : Nat) (h : k < fs.length) (r : Nat) (hr : r < 3) (v : Value) (f : FM) (e : fcells f = (fcells fs[k]).set r v) : (fcs fs).set (k * 3 + r) v = fcs (fs.set k f) := by
  have k1 : setL (fcs fs) (k * 3) (fcells f) = fcs (fs.set k f) := flat_setL fcells_len fs k h f
  have k0 : setL (fcs fs) (k * 3) (fcells fs[k]) = fcs fs := by
    have := flat_setL fcells_len fs k h fs[k]
    rw [List.set_getElem_self] at this
    exact this
  rw [← k1, e]
  conv => lhs; rw [← k0]
  have hl : k * 3 + 2 < (fcs fs).length := by rw [fcs_len]; omega
  match r, hr with
  | 0, _ => simp only [fcells, setL, Nat.add_zero, List.set_cons_zero]; rw [List.set_comm _ _ (show k * 3 + 1 + 1 ≠ k * 3 by omega), List.set_comm _ _ (show k * 3 + 1 ≠ k * 3 by omega), List.set_set]
  | 1, _ => simp only [fcells, setL, List.set_cons_zero, List.set_cons_succ]; rw [List.set_comm _ _ (show k * 3 + 1 + 1 ≠ k * 3 + 1 by omega), List.set_set]
  | 2, _ => simp only [fcells, setL, List.set_cons_zero, List.set_cons_succ]; rw [List.set_set]
def DkPost (w0 : World) (g B : Nat) (a : Option Addr) (len cap : Nat) (S : List Str) (e : Ending) (w' : World) : Prop :=
  ∃ (fs : List FM) (b : Option Addr) (c : Nat), e = .returned (.agg #[.slice b fs.length c]) ∧ DG fs 31 ∧ SO w0 w' g B a len cap S 55 3 (.slice b fs.length c) fs.length (fcs fs)
theorem dk_post {w0 w' : World} {g B len cap n c m : Nat} {a b : Option Addr} {S : List Str} {fs : List FM} (hn : n = fs.length) (hg : DG fs m) (hs : SO w0 w' g B a len cap S 55 3 (.slice b n c) n (fcs fs)) (hm : m ≤ 31 := by omega) : DkPost w0 g B a len cap S (.returned (.agg #[.slice b n c])) w' := by
  subst hn
  exact ⟨fs, b, c, rfl, hg.more hm, hs⟩
theorem dec_size9 (x : Int) (h0 : 0 ≤ x) (h1 : x < 10000) : (⟨(W.decS x.toNat).toArray⟩ : ByteArray).size ≤ 4 := by
  show (W.decS x.toNat).toArray.size ≤ 4
  rw [List.size_toArray]
  unfold W.decS
  split
  · decide
  · exact W.dg_len 4 _ (by omega)
theorem dec9 (x : Int) (w : World) (h0 : 0 ≤ x) (h1 : x < 10000) : Calls Try.prog 34 #[.int .i64 x] w fun e w' => ∃ t : ByteArray, e = .returned (.string t) ∧ t.size ≤ 4 ∧ Below w.heap.size w w' :=
  (decimal_nat x w h0 (by omega)).mono (by rintro e w' ⟨rfl, hb⟩; exact ⟨_, rfl, dec_size9 x h0 h1, hb⟩)
theorem so_file {w0 x : World} {g B len cap n c q p : Nat} {a : Option Addr} {S : List Str} {fs : List FM} {f : FM} (h : SO w0 x g B a len cap S 55 3 (.slice (some ⟨q, 0, none⟩) n c) n (fcs fs)) (hp : p < fs.length) (hf : f = fs[p]) :
    (x.cell? ⟨q, p * 3, none⟩ = some (.string f.name) ∧ x.frozen? ⟨q, p * 3, none⟩ = false) ∧ (x.cell? ⟨q, p * 3 + 1, none⟩ = some (.string f.text) ∧ x.frozen? ⟨q, p * 3 + 1, none⟩ = false) ∧ (x.cell? ⟨q, p * 3 + 2, none⟩ = some (.int .i64 f.kept) ∧ x.frozen? ⟨q, p * 3 + 2, none⟩ = false) := by
  have hw := own_wcells h.ow.own
  subst hf
  exact ⟨hw.2 (p * 3) _ (flat_get fcells_len fs p hp 0 (by omega)), hw.2 (p * 3 + 1) _ (flat_get fcells_len fs p hp 1 (by omega)), hw.2 (p * 3 + 2) _ (flat_get fcells_len fs p hp 2 (by omega))⟩
theorem so_ne {w0 x : World} {g B len cap n ty sz lb : Nat} {a : Option Addr} {S : List Str} {v : Value} {L X : List Value} (h : SO w0 x g B a len cap (bxS lb X :: S) ty sz v n L) : lb ≠ g := by
  have := h.far _ (List.mem_cons_self ..)
  dsimp only [bxS] at this
  omega
theorem two_ints {w0 x : World} {g B len cap n ty sz lb : Nat} {a : Option Addr} {S : List Str} {v : Value} {L : List Value} {P : Int → Prop} {u t : Int} (h : SO w0 x g B a len cap (bxS lb [.int .i64 u, .int .i64 t] :: S) ty sz v n L) (hu : P u) (ht : P t) : ∀ j, j < 2 → ∃ y : Int, x.cell? ⟨lb, j, none⟩ = some (.int .i64 y) ∧ P y := fun j hj => by
  match j, hj with
  | 0, _ => exact ⟨u, (h.bx 0 rfl 0 _ rfl).1, hu⟩
  | 1, _ => exact ⟨t, (h.bx 0 rfl 1 _ rfl).1, ht⟩
theorem three_texts {w0 x : World} {g B len cap n ty sz lb : Nat} {a : Option Addr} {S : List Str} {v : Value} {L : List Value} {P : ByteArray → Prop} {u t r : ByteArray} (h : SO w0 x g B a len cap (bxS lb [.string u, .string t, .string r] :: S) ty sz v n L) (hu : P u) (ht : P t) (hr : P r) : ∀ j, j < 3 → ∃ y : ByteArray, x.cell? ⟨lb, j, none⟩ = some (.string y) ∧ P y := fun j hj => by
  match j, hj with
  | 0, _ => exact ⟨u, (h.bx 0 rfl 0 _ rfl).1, hu⟩
  | 1, _ => exact ⟨t, (h.bx 0 rfl 1 _ rfl).1, ht⟩
  | 2, _ => exact ⟨r, (h.bx 0 rfl 2 _ rfl).1, hr⟩
theorem app9 {P : Program} {w y : World} {o : Oper} {a : Act} {s x : Operand} {t : TypeId} {v1 v2 v : Value} (ho : o.op = .call { callee := .builtin .append, args := #[s, x], argTypes := #[t, t] }) (hs : a.eval s = v1) (hx : a.eval x = v2) (hr : (Builtin.append_ #[t, t] o.type #[v1, v2]).run P w = .ok v y) : (execOp a.eval o).run P w = .ok (.value v) y := by
  unfold execOp
  simp only [ho, resolve, invoke, builtin, Sem.run_bind, Sem.run_pure, Result.andThen_ok, List.map_toArray, List.map_cons, List.map_nil, hs, hx, hr]
theorem put9 {w0 x : World} {g B len cap n c : Nat} {a b : Option Addr} {S : List Str} {fs : List FM} {f : FM} (hn : n = fs.length) (hl : fs.length ≤ 1048576) (h : SO w0 x g B a len cap S 55 3 (.slice b n c) n (fcs fs)) :
    Calls Try.prog 30 #[.agg #[.slice b n c], fv f] x fun e y => ∃ b' n' c', e = .returned (.agg #[.slice b' n' c']) ∧ n' = (putF f fs).length ∧ SO w0 y g B a len cap S 55 3 (.slice b' n' c') n' (fcs (putF f fs)) ∧ Below x.heap.size x y := by
  subst hn
  refine (l03Put_any b fs c f x (FRw.of_own h.ow.own).1.crow hl).mono ?_
  rintro e y ⟨v, rfl, ho, hb⟩
  obtain ⟨b', c', rfl⟩ := own_formD ho
  exact ⟨b', _, c', rfl, rfl, h.new hb ho, hb⟩
set_option maxRecDepth 1000000 in
set_option maxHeartbeats 8000000 in
theorem l03Disk_any {w0 W : World} {g B len cap : Nat} {a : Option Addr} {S : List Str} (h : SD w0 W g B a len cap S) :
    Calls Try.prog 14 #[.pointer (some ⟨g, 0, none⟩)] W fun e W' => DkPost w0 g B a len cap S e W' := by
  obtain ⟨i0, hin, hz0, hz1, hz2⟩ := info_parts infoFile
  have hR := (h.new #[.slice none 0 0] 26).new #[.slice none 0 0] 26
  simp only [World.size_alloc] at hR
  obtain ⟨rb, hrb⟩ : ∃ q, q = W.heap.size := ⟨_, rfl⟩
  have HS : Shut (SO w0 ((W.alloc (.cells #[.slice none 0 0] 26)).alloc (.cells #[.slice none 0 0] 26)) g B a len cap (bxS (W.heap.size + 1) [.slice none 0 0] :: bxS W.heap.size [.slice none 0 0] :: S) 55 3 (.slice none 0 0) 0 (fcs [])) := ⟨⟨OwS.nil hR.sl, hR.cur, hR.far, (fun e => by cases e), hR.hg, hR.hB⟩⟩
  clear h hR
  go_enter Try.func14, Try.ntmps14
  go_upto_region 2 with fail
  obtain ⟨db, hdb⟩ : ∃ q, q = W.heap.size + 1 := ⟨_, rfl⟩
  rw [← hdb, ← hrb] at HS
  refine wp_shade (fun W' => SO w0 W' g B a len cap (bxS db [.slice none 0 0] :: bxS rb [.slice none 0 0] :: S) 55 3 (.slice none 0 0) 0 (fcs [])) HS.out ?_
  intro W1 hW1
  have HW := Shut.mk hW1
  rw [← hdb, ← hrb]
  clear HS hW1 hdb hrb
  go_wp2_with fail
  go_loopw [4, 5] (fun i5 _ wr => ∃ (k n c : Nat) (b : Option Addr) (fs : List FM), i5 = .int .i64 k ∧ k ≤ 6 ∧ Shut (n = fs.length) ∧ Shut (UpN fs) ∧ Shut (DG fs k) ∧ Shut (SO w0 wr g B a len cap (bxS db [.slice b n c] :: bxS rb [.slice none 0 0] :: S) 55 3 (.slice b n c) n (fcs fs))) (fun i5 _ _ => 6 - (intOf i5).toNat)
  case atStart => exact ⟨0, 0, 0, none, [], rfl, by omega, ⟨rfl⟩, ⟨List.Pairwise.nil⟩, ⟨⟨Nat.le_refl _, fun f hf => by cases hf⟩⟩, HW⟩
  case round =>
    clear HW
    obtain ⟨k, n, c, b, fs, rfl, hk, HN, HU, HG, HW⟩ := hrel
    have k0 : (0 : Int) ≤ (k : Int) := by omega
    go_wp2_with fail
    refine (HW.out.sd.pick 6 (by omega)).mono ?_
    rintro e w2 ⟨x, rfl, x0, x1, hd⟩
    obtain ⟨m, rfl⟩ := Int.eq_ofNat_of_zero_le x0
    replace HW := Shut.mk (HW.out.draw hd)
    clear hd
    by_cases hlt : k < m
    · have hlt' : (k : Int) < (m : Int) := by omega
      go_wp2_with fail
      refine (HW.out.sd.pick 9 (by omega)).mono ?_
      rintro e w3 ⟨y, rfl, y0, y1, hd⟩
      obtain ⟨ny, rfl⟩ := Int.eq_ofNat_of_zero_le y0
      have hny : ny ≤ 8 := by omega
      replace HW := Shut.mk (HW.out.draw hd)
      clear hd
      go_wp2_with fail
      refine (HW.out.sd.text ny (by omega)).mono ?_
      rintro e w4 ⟨t, rfl, ht, hd⟩
      replace HW := Shut.mk (HW.out.draw hd)
      clear hd
      have htz : t.size ≤ 8 := by omega
      clear ht
      have hwr : IntKind.i64.wrap ((t.size : Int) + 1) = (t.size : Int) + 1 := IntWalk.i64_in _ ⟨by omega, by omega⟩
      go_upto_region 6 with fail
      have HX : Shut (SO w0 w4.drew g B a len cap (bxS db [.slice b n c] :: bxS rb [.slice none 0 0] :: S) 55 3 (.slice b n c) n (fcs fs)) := ⟨HW.out.below (Below.drew (Below.refl _ _))⟩
      have HLE : Shut (∀ x, Dr g B a len cap w4.drew x → x.cell? ⟨db, 0, none⟩ = some (.slice b n c)) := ⟨fun x hx => ((HX.out.draw hx).bx 0 rfl 0 _ rfl).1⟩
      refine wp_region_E (Dr g B a len cap) (Dr.pre g B a len cap) (fun j => decide (10 ≤ j)) (by kernel_rfl) ?_
      refine wpE_val (Dr.pre g B a len cap) (i := 0) (v := ?va0) rfl (by kernel_rfl) (by kernel_rfl) (by kernel_rfl) (by kernel_rfl) (fun _ _ _ h => h) (by rfl) ?hya0 ?resta0
      case hya0 => (intro x hx; have d0 := HLE.out x hx; go_simp; try with_reducible rfl)
      try simp only [Act.put, List.setIfInBounds_toArray, List.set_cons_zero, List.set_cons_succ]
      refine wpE_val (Dr.pre g B a len cap) (i := 1) (v := ?va1) rfl (by kernel_rfl) (by kernel_rfl) (by kernel_rfl) (by kernel_rfl) (fun _ _ _ h => h) (by rfl) ?hya1 ?resta1
      case hya1 => (intro x hx; have d0 := HLE.out x hx; go_simp; try with_reducible rfl)
      try simp only [Act.put, List.setIfInBounds_toArray, List.set_cons_zero, List.set_cons_succ]
      refine wpE_val (Dr.pre g B a len cap) (i := 3) (v := ?va3) rfl (by kernel_rfl) (by kernel_rfl) (by kernel_rfl) (by kernel_rfl) (fun _ _ _ h => h) (by rfl) ?hya3 ?resta3
      case hya3 => (intro x hx; have d0 := HLE.out x hx; go_simp; try with_reducible rfl)
      try simp only [Act.put, List.setIfInBounds_toArray, List.set_cons_zero, List.set_cons_succ]
      refine wpE_val (Dr.pre g B a len cap) (i := 4) (v := ?va4) rfl (by kernel_rfl) (by kernel_rfl) (by kernel_rfl) (by kernel_rfl) (fun _ _ _ h => h) (by rfl) ?hya4 ?resta4
      case hya4 => (intro x hx; have d0 := HLE.out x hx; go_simp; try with_reducible rfl)
      try simp only [Act.put, List.setIfInBounds_toArray, List.set_cons_zero, List.set_cons_succ]
      refine wpE_val (Dr.pre g B a len cap) (i := 5) (v := ?va5) rfl (by kernel_rfl) (by kernel_rfl) (by kernel_rfl) (by kernel_rfl) (fun _ _ _ h => h) (by rfl) ?hya5 ?resta5
      case hya5 => (intro x hx; have d0 := HLE.out x hx; go_simp; try with_reducible rfl)
      try simp only [Act.put, List.setIfInBounds_toArray, List.set_cons_zero, List.set_cons_succ]
      refine wpE_val (Dr.pre g B a len cap) (i := 6) (v := ?va6) rfl (by kernel_rfl) (by kernel_rfl) (by kernel_rfl) (by kernel_rfl) (fun _ _ _ h => h) (by rfl) ?hya6 ?resta6
      case hya6 => (intro x hx; have d0 := HLE.out x hx; go_simp; try with_reducible rfl)
      try simp only [Act.put, List.setIfInBounds_toArray, List.set_cons_zero, List.set_cons_succ]
      refine wpE_val (Dr.pre g B a len cap) (i := 7) (v := ?va7) rfl (by kernel_rfl) (by kernel_rfl) (by kernel_rfl) (by kernel_rfl) (fun _ _ _ h => h) (by rfl) ?hya7 ?resta7
      case hya7 => (intro x hx; have d0 := HLE.out x hx; go_simp; try with_reducible rfl)
      try simp only [Act.put, List.setIfInBounds_toArray, List.set_cons_zero, List.set_cons_succ]
      refine wpE_onecall (f := 31) (args := #[.pointer (some ⟨g, 0, none⟩)]) (i := 2) (by kernel_rfl) rfl (by rfl) (fun x hx => by go_simp) (fun x hx => (l03Named_any x g B a len cap (HX.out.draw hx).cur).mono ?_)
      rintro e w5 ⟨nq, rfl, n1, n2, hc5, hg5⟩
      have hd : Dr g B a len cap x w5 := ⟨hg5, fun _ => hc5⟩
      clear hc5 hg5
      refine ⟨_, rfl, hd, ?_⟩
      replace HX : Shut (SO w0 w5 g B a len cap (bxS db [.slice b n c] :: bxS rb [.slice none 0 0] :: S) 55 3 (.slice b n c) n (fcs fs)) := ⟨(HX.out.draw hx).draw hd⟩
      clear hd hx HLE
      have HLE : Shut (∀ x, Dr g B a len cap w5 x → x.cell? ⟨db, 0, none⟩ = some (.slice b n c)) := ⟨fun x hx => ((HX.out.draw hx).bx 0 rfl 0 _ rfl).1⟩
      try simp only [Act.put, List.setIfInBounds_toArray, List.set_cons_zero, List.set_cons_succ]
      refine wpE_onecall (f := 28) (args := #[.pointer (some ⟨g, 0, none⟩), .int .i64 ((t.size : Int) + 1)]) (i := 8) (by kernel_rfl) rfl (by rfl) (fun x hx => by go_simp) (fun x hx => ((HX.out.draw hx).sd.pick ((t.size : Int) + 1) (by omega)).mono ?_)
      rintro e w6 ⟨z, rfl, z0, z1, hd⟩
      refine ⟨_, rfl, hd, ?_⟩
      replace HX : Shut (SO w0 w6 g B a len cap (bxS db [.slice b n c] :: bxS rb [.slice none 0 0] :: S) 55 3 (.slice b n c) n (fcs fs)) := ⟨(HX.out.draw hx).draw hd⟩
      clear hd hx HLE
      have HLE : Shut (∀ x, Dr g B a len cap w6 x → x.cell? ⟨db, 0, none⟩ = some (.slice b n c)) := ⟨fun x hx => ((HX.out.draw hx).bx 0 rfl 0 _ rfl).1⟩
      try simp only [Act.put, List.setIfInBounds_toArray, List.set_cons_zero, List.set_cons_succ]
      refine wpE_val (Dr.pre g B a len cap) (i := 9) (v := ?va9) rfl (by kernel_rfl) (by kernel_rfl) (by kernel_rfl) (by kernel_rfl) (fun _ _ _ h => h) (by rfl) ?hya9 ?resta9
      case hya9 => (intro x hx; have d0 := HLE.out x hx; go_simp; try with_reducible rfl)
      try simp only [Act.put, List.setIfInBounds_toArray, List.set_cons_zero, List.set_cons_succ]
      refine wpE_onecall (f := 30) (args := #[.agg #[.slice b n c], .agg #[.string nq, .string t, .int .i64 z]]) (i := 10) (by kernel_rfl) rfl (by rfl) (fun x hx => by go_simp) (fun x hx => (put9 (f := ⟨nq, t, z⟩) HN.out (by have := HG.out.few; omega) (HX.out.draw hx)).mono ?_)
      rintro e y8 ⟨b8, n8, c8, rfl, hn8, hsd8, hb8⟩
      refine ⟨_, rfl, ⟨gb_below hb8, fun q => q.below hb8⟩, ?_⟩
      have HY := Shut.mk hsd8
      have HN8 := Shut.mk hn8
      clear hsd8 hn8 hb8 hx HLE HX
      try simp only [Act.put, List.setIfInBounds_toArray, List.set_cons_zero, List.set_cons_succ]
      refine wpE_tail (by kernel_rfl) ?_
      intro x hx
      replace HY := Shut.mk (HY.out.draw hx)
      obtain ⟨q0, qf0⟩ := HY.out.bx 0 rfl 0 _ rfl
      have HZ := Shut.mk (HY.out.put 0 rfl 0 (.slice b8 n8 c8) (by simp))
      simp only [List.set_cons_zero] at HZ
      have HG8 : Shut (DG (putF ⟨nq, t, z⟩ fs) (k + 1)) := ⟨HG.out.put HU.out ⟨by show nq.size ≤ 9; omega, by show t.size ≤ 20001; omega, by show -1 ≤ z; omega, by show z ≤ 20002; omega⟩⟩
      have HU8 : Shut (UpN (putF ⟨nq, t, z⟩ fs)) := ⟨HU.out.put _⟩
      clear hx HY
      refine wpA_store (y := x.setCell ⟨db, 0, none⟩ (.slice b8 n8 c8)) (i := 11) (by kernel_rfl) rfl (by rfl) (by go_simp) (by kernel_rfl) ?_
      try simp only [Act.put]
      clear q0 qf0
      go_wp2_with fail
      go_roundw
      case rel => exact ⟨k + 1, n8, c8, b8, _, by go_num, by omega, HN8, HU8, HG8, HZ⟩
      case measure => simp [intOf]; omega
    · have hlt' : ¬ (k : Int) < (m : Int) := by omega
      have HG6 := Shut.mk (HG.out.more (show k ≤ 6 by omega))
      by_cases hz : n = 0
      · have hz' : ((n : Int) == 0) = true := by simp; omega
        have z0 := (HW.out.bx 0 rfl 0 _ rfl).1
        obtain ⟨r0, r0z⟩ := HW.out.bx 1 rfl 0 _ rfl
        have HE := Shut.mk ((HW.out.put 1 rfl 0 (.slice b n c) (by simp)).tail.tail)
        clear hz
        go_wp2_with fail
        refine bodyPost_ret (v := .agg #[.slice b n c]) (by simp [results, Try.results14, go_sem, r0]) rfl ?_
        exact dk_post HN.out HG6.out HE.out
      · have hz' : ((n : Int) == 0) = false := by simp; omega
        have z0 := (HW.out.bx 0 rfl 0 _ rfl).1
        have hn31 : n ≤ 6 := by have := HG.out.few; have := HN.out; omega
        have hnp : 0 < n := by omega
        go_upto_region 10 with (go_at_call 28; refine (HW.out.sd.pick (n : Int) (by omega)).mono ?_; rintro e w3 ⟨y, rfl, y0, y1, hd⟩; replace HW := Shut.mk (HW.out.draw hd); clear hd z0)
        obtain ⟨p, rfl⟩ := Int.eq_ofNat_of_zero_le y0
        have HP : Shut (p < fs.length) := ⟨by have := HN.out; omega⟩
        have hpn : p < n := by omega
        have hp0 : (0 : Int) ≤ (p : Int) := by omega
        have hp1 : (p : Int) < (n : Int) := by omega
        obtain ⟨q, rfl⟩ : ∃ q, b = some ⟨q, 0, none⟩ := by
          rcases HW.out.ow.own.2 with ⟨e, e2⟩ | ⟨g', c', cur, e, _⟩
          · omega
          · cases e; exact ⟨g', rfl⟩
        obtain ⟨f, hf⟩ : ∃ f, f = fs[p]'HP.out := ⟨_, rfl⟩
        have HF := Shut.mk hf
        have HFD : Shut (FDk f) := ⟨by rw [hf]; exact HG6.out.all _ (List.getElem_mem _)⟩
        have hft := HFD.out.2.1
        clear hf hz y1 hlt' HU
        go_wp2_with fail
        refine (HW.out.sd.pick 40 (by omega)).mono ?_
        rintro e w4 ⟨sw, rfl, s0, s1, hd⟩
        replace HW := Shut.mk (HW.out.draw hd)
        clear hd
        have hwr : IntKind.i64.wrap ((f.text.size : Int) + 1) = (f.text.size : Int) + 1 := IntWalk.i64_in _ ⟨by omega, by omega⟩
        by_cases h0 : sw = 0
        · have e0 : (sw == 0) = true := by simpa using h0
          go_upto_region 12 with fail
          have HX : Shut (SO w0 w4.drew g B a len cap (bxS db [.slice (some ⟨q, 0, none⟩) n c] :: bxS rb [.slice none 0 0] :: S) 55 3 (.slice (some ⟨q, 0, none⟩) n c) n (fcs fs)) := ⟨HW.out.below (Below.drew (Below.refl _ _))⟩
          have HLE : Shut (∀ x, Dr g B a len cap w4.drew x → x.cell? ⟨db, 0, none⟩ = some (.slice (some ⟨q, 0, none⟩) n c) ∧ x.cell? ⟨q, p * 3 + 1, none⟩ = some (.string f.text)) := ⟨fun x hx => ⟨((HX.out.draw hx).bx 0 rfl 0 _ rfl).1, (so_file (HX.out.draw hx) HP.out HF.out).2.1.1⟩⟩
          refine wp_region_E (Dr g B a len cap) (Dr.pre g B a len cap) (fun j => decide (14 ≤ j)) (by kernel_rfl) ?_
          refine wpE_val (Dr.pre g B a len cap) (i := 0) (v := ?vb0) rfl (by kernel_rfl) (by kernel_rfl) (by kernel_rfl) (by kernel_rfl) (fun _ _ _ h => h) (by rfl) ?hyb0 ?restb0
          case hyb0 => (intro x hx; obtain ⟨d0, p0⟩ := HLE.out x hx; go_simp; try with_reducible rfl)
          try simp only [Act.put, List.setIfInBounds_toArray, List.set_cons_zero, List.set_cons_succ]
          refine wpE_val (Dr.pre g B a len cap) (i := 1) (v := ?vb1) rfl (by kernel_rfl) (by kernel_rfl) (by kernel_rfl) (by kernel_rfl) (fun _ _ _ h => h) (by rfl) ?hyb1 ?restb1
          case hyb1 => (intro x hx; obtain ⟨d0, p0⟩ := HLE.out x hx; go_simp; try with_reducible rfl)
          try simp only [Act.put, List.setIfInBounds_toArray, List.set_cons_zero, List.set_cons_succ]
          refine wpE_val (Dr.pre g B a len cap) (i := 2) (v := ?vb2) rfl (by kernel_rfl) (by kernel_rfl) (by kernel_rfl) (by kernel_rfl) (fun _ _ _ h => h) (by rfl) ?hyb2 ?restb2
          case hyb2 => (intro x hx; obtain ⟨d0, p0⟩ := HLE.out x hx; go_simp; try with_reducible rfl)
          try simp only [Act.put, List.setIfInBounds_toArray, List.set_cons_zero, List.set_cons_succ]
          refine wpE_val (Dr.pre g B a len cap) (i := 3) (v := ?vb3) rfl (by kernel_rfl) (by kernel_rfl) (by kernel_rfl) (by kernel_rfl) (fun _ _ _ h => h) (by rfl) ?hyb3 ?restb3
          case hyb3 => (intro x hx; obtain ⟨d0, p0⟩ := HLE.out x hx; go_simp; try with_reducible rfl)
          try simp only [Act.put, List.setIfInBounds_toArray, List.set_cons_zero, List.set_cons_succ]
          refine wpE_val (Dr.pre g B a len cap) (i := 4) (v := ?vb4) rfl (by kernel_rfl) (by kernel_rfl) (by kernel_rfl) (by kernel_rfl) (fun _ _ _ h => h) (by rfl) ?hyb4 ?restb4
          case hyb4 => (intro x hx; obtain ⟨d0, p0⟩ := HLE.out x hx; go_simp; try with_reducible rfl)
          try simp only [Act.put, List.setIfInBounds_toArray, List.set_cons_zero, List.set_cons_succ]
          refine wpE_val (Dr.pre g B a len cap) (i := 5) (v := ?vb5) rfl (by kernel_rfl) (by kernel_rfl) (by kernel_rfl) (by kernel_rfl) (fun _ _ _ h => h) (by rfl) ?hyb5 ?restb5
          case hyb5 => (intro x hx; obtain ⟨d0, p0⟩ := HLE.out x hx; go_simp; try with_reducible rfl)
          try simp only [Act.put, List.setIfInBounds_toArray, List.set_cons_zero, List.set_cons_succ]
          refine wpE_val (Dr.pre g B a len cap) (i := 6) (v := ?vb6) rfl (by kernel_rfl) (by kernel_rfl) (by kernel_rfl) (by kernel_rfl) (fun _ _ _ h => h) (by rfl) ?hyb6 ?restb6
          case hyb6 => (intro x hx; obtain ⟨d0, p0⟩ := HLE.out x hx; go_simp; try with_reducible rfl)
          try simp only [Act.put, List.setIfInBounds_toArray, List.set_cons_zero, List.set_cons_succ]
          refine wpE_val (Dr.pre g B a len cap) (i := 7) (v := ?vb7) rfl (by kernel_rfl) (by kernel_rfl) (by kernel_rfl) (by kernel_rfl) (fun _ _ _ h => h) (by rfl) ?hyb7 ?restb7
          case hyb7 => (intro x hx; obtain ⟨d0, p0⟩ := HLE.out x hx; go_simp; try with_reducible rfl)
          try simp only [Act.put, List.setIfInBounds_toArray, List.set_cons_zero, List.set_cons_succ]
          refine wpE_val (Dr.pre g B a len cap) (i := 8) (v := ?vb8) rfl (by kernel_rfl) (by kernel_rfl) (by kernel_rfl) (by kernel_rfl) (fun _ _ _ h => h) (by rfl) ?hyb8 ?restb8
          case hyb8 => (intro x hx; obtain ⟨d0, p0⟩ := HLE.out x hx; go_simp; try with_reducible rfl)
          try simp only [Act.put, List.setIfInBounds_toArray, List.set_cons_zero, List.set_cons_succ]
          refine wpE_val (Dr.pre g B a len cap) (i := 9) (v := ?vb9) rfl (by kernel_rfl) (by kernel_rfl) (by kernel_rfl) (by kernel_rfl) (fun _ _ _ h => h) (by rfl) ?hyb9 ?restb9
          case hyb9 => (intro x hx; obtain ⟨d0, p0⟩ := HLE.out x hx; go_simp; try with_reducible rfl)
          try simp only [Act.put, List.setIfInBounds_toArray, List.set_cons_zero, List.set_cons_succ]
          refine wpE_val (Dr.pre g B a len cap) (i := 10) (v := ?vb10) rfl (by kernel_rfl) (by kernel_rfl) (by kernel_rfl) (by kernel_rfl) (fun _ _ _ h => h) (by rfl) ?hyb10 ?restb10
          case hyb10 => (intro x hx; obtain ⟨d0, p0⟩ := HLE.out x hx; go_simp; try with_reducible rfl)
          try simp only [Act.put, List.setIfInBounds_toArray, List.set_cons_zero, List.set_cons_succ]
          refine wpE_val (Dr.pre g B a len cap) (i := 11) (v := ?vb11) rfl (by kernel_rfl) (by kernel_rfl) (by kernel_rfl) (by kernel_rfl) (fun _ _ _ h => h) (by rfl) ?hyb11 ?restb11
          case hyb11 => (intro x hx; obtain ⟨d0, p0⟩ := HLE.out x hx; go_simp; try with_reducible rfl)
          try simp only [Act.put, List.setIfInBounds_toArray, List.set_cons_zero, List.set_cons_succ]
          refine wpE_one (i := 12) (by kernel_rfl) rfl (by rfl) ?_
          intro y hy
          refine ⟨.slice (some ⟨y.heap.size, 0, none⟩) 2 2, y.alloc (.cells #[.int .i64 (-1), .int .i64 ((f.text.size : Int) + 1)] 3), by go_simp, ⟨gb_below ((Below.refl _ _).alloc (Nat.le_refl _) _), fun q => q.below ((Below.refl _ _).alloc (Nat.le_refl _) _)⟩, ?_⟩
          have HXB : Shut (SO w0 (y.alloc (.cells #[.int .i64 (-1), .int .i64 ((f.text.size : Int) + 1)] 3)) g B a len cap (bxS y.heap.size [.int .i64 (-1), .int .i64 ((f.text.size : Int) + 1)] :: bxS db [.slice (some ⟨q, 0, none⟩) n c] :: bxS rb [.slice none 0 0] :: S) 55 3 (.slice (some ⟨q, 0, none⟩) n c) n (fcs fs)) := ⟨(HX.out.draw hy).box #[.int .i64 (-1), .int .i64 ((f.text.size : Int) + 1)] 3⟩
          obtain ⟨wa, hwa⟩ : ∃ q, q = y.alloc (.cells #[.int .i64 (-1), .int .i64 ((f.text.size : Int) + 1)] 3) := ⟨_, rfl⟩
          obtain ⟨lb, hlb⟩ : ∃ q, q = y.heap.size := ⟨_, rfl⟩
          rw [← hwa, ← hlb] at HXB
          rw [← hwa, ← hlb]
          clear hwa hlb hy HLE HX
          have HX := HXB
          clear HXB
          have HLE : Shut (∀ x, Dr g B a len cap wa x → x.cell? ⟨db, 0, none⟩ = some (.slice (some ⟨q, 0, none⟩) n c) ∧ x.cell? ⟨q, p * 3 + 1, none⟩ = some (.string f.text)) := ⟨fun x hx => ⟨((HX.out.draw hx).bx 1 rfl 0 _ rfl).1, (so_file (HX.out.draw hx) HP.out HF.out).2.1.1⟩⟩
          try simp only [Act.put, List.setIfInBounds_toArray, List.set_cons_zero, List.set_cons_succ]
          refine wpE_onecall (f := 32) (args := #[.pointer (some ⟨g, 0, none⟩), .slice (some ⟨lb, 0, none⟩) 2 2]) (i := 13) (by kernel_rfl) rfl (by rfl) (fun x hx => by go_simp) (fun x hx => (l01PickInt_in (fun z => -1 ≤ z ∧ z ≤ 20002) x g B a len cap lb 2 (by decide) (by decide) (so_ne (HX.out.draw hx)) (two_ints (HX.out.draw hx) ⟨by omega, by omega⟩ ⟨by omega, by omega⟩) (HX.out.draw hx).cur).mono ?_)
          rintro e w5 ⟨z, rfl, hz9, hc5, hg5⟩
          have hd : Dr g B a len cap x w5 := ⟨hg5, fun _ => hc5⟩
          clear hc5 hg5
          refine ⟨_, rfl, hd, ?_⟩
          replace HX : Shut (SO w0 w5 g B a len cap (bxS lb [.int .i64 (-1), .int .i64 ((f.text.size : Int) + 1)] :: bxS db [.slice (some ⟨q, 0, none⟩) n c] :: bxS rb [.slice none 0 0] :: S) 55 3 (.slice (some ⟨q, 0, none⟩) n c) n (fcs fs)) := ⟨(HX.out.draw hx).draw hd⟩
          clear hd hx HLE
          have HLE : Shut (∀ x, Dr g B a len cap w5 x → x.cell? ⟨db, 0, none⟩ = some (.slice (some ⟨q, 0, none⟩) n c) ∧ x.cell? ⟨q, p * 3 + 1, none⟩ = some (.string f.text)) := ⟨fun x hx => ⟨((HX.out.draw hx).bx 1 rfl 0 _ rfl).1, (so_file (HX.out.draw hx) HP.out HF.out).2.1.1⟩⟩
          try simp only [Act.put, List.setIfInBounds_toArray, List.set_cons_zero, List.set_cons_succ]
          refine wpE_pure (Dr.pre g B a len cap) (i := 14) (v := ?vb14) rfl (by kernel_rfl) (by kernel_rfl) (by kernel_rfl) (by kernel_rfl) (fun _ _ _ h => h) (by rfl) ?hyb14 ?restb14
          case hyb14 => (intro x; go_simp; try with_reducible rfl)
          try simp only [Act.put, List.setIfInBounds_toArray, List.set_cons_zero, List.set_cons_succ]
          refine wpE_pure (Dr.pre g B a len cap) (i := 15) (v := ?vb15) rfl (by kernel_rfl) (by kernel_rfl) (by kernel_rfl) (by kernel_rfl) (fun _ _ _ h => h) (by rfl) ?hyb15 ?restb15
          case hyb15 => (intro x; go_simp; try with_reducible rfl)
          try simp only [Act.put, List.setIfInBounds_toArray, List.set_cons_zero, List.set_cons_succ]
          refine wpE_tail (by kernel_rfl) ?_
          intro x hx
          replace HX : Shut (SO w0 x g B a len cap (bxS lb [.int .i64 (-1), .int .i64 ((f.text.size : Int) + 1)] :: bxS db [.slice (some ⟨q, 0, none⟩) n c] :: bxS rb [.slice none 0 0] :: S) 55 3 (.slice (some ⟨q, 0, none⟩) n c) n (fcs fs)) := ⟨HX.out.draw hx⟩
          clear hx HLE
          obtain ⟨k9, kz9⟩ := (so_file HX.out HP.out HF.out).2.2
          have HZ := Shut.mk (HX.out.cell (p * 3 + 2) (.int .i64 z))
          rw [fcs_set fs p HP.out 2 (by omega) _ ⟨f.name, f.text, z⟩ (by rw [← HF.out]; rfl)] at HZ
          replace HZ := Shut.mk HZ.out.tail
          replace HG := Shut.mk (HG6.out.set (k := p) (f := ⟨f.name, f.text, z⟩) ⟨HFD.out.1, HFD.out.2.1, hz9.1, hz9.2⟩)
          replace HN : Shut (n = (fs.set p ⟨f.name, f.text, z⟩).length) := ⟨by rw [List.length_set]; exact HN.out⟩
          clear HX
          refine wpA_store (y := x.setCell ⟨q, p * 3 + 2, none⟩ (.int .i64 z)) (i := 16) (by kernel_rfl) rfl (by rfl) (by go_simp) (by kernel_rfl) ?_
          try simp only [Act.put]
          clear k9 kz9
          have HW := HZ
          clear HZ
          have z0 := (HW.out.bx 0 rfl 0 _ rfl).1
          obtain ⟨r0, r0z⟩ := HW.out.bx 1 rfl 0 _ rfl
          have HE := Shut.mk ((HW.out.put 1 rfl 0 (.slice (some ⟨q, 0, none⟩) n c) (by simp)).tail.tail)
          go_wp2_with fail
          refine bodyPost_ret (v := .agg #[.slice (some ⟨q, 0, none⟩) n c]) (by simp [results, Try.results14, go_sem, r0]) rfl ?_
          exact dk_post HN.out HG.out HE.out
        by_cases h1 : sw = 1
        · have e0 : (sw == 0) = false := by simpa using h0
          have e1 : (sw == 1) = true := by simpa using h1
          go_upto_region 14 with fail
          have HX : Shut (SO w0 w4.drew g B a len cap (bxS db [.slice (some ⟨q, 0, none⟩) n c] :: bxS rb [.slice none 0 0] :: S) 55 3 (.slice (some ⟨q, 0, none⟩) n c) n (fcs fs)) := ⟨HW.out.below (Below.drew (Below.refl _ _))⟩
          have HLE : Shut (∀ x, Dr g B a len cap w4.drew x → x.cell? ⟨db, 0, none⟩ = some (.slice (some ⟨q, 0, none⟩) n c) ∧ x.cell? ⟨q, p * 3, none⟩ = some (.string f.name) ∧ x.cell? ⟨q, p * 3 + 1, none⟩ = some (.string f.text) ∧ x.cell? ⟨q, p * 3 + 2, none⟩ = some (.int .i64 f.kept)) := ⟨fun x hx => ⟨((HX.out.draw hx).bx 0 rfl 0 _ rfl).1, (so_file (HX.out.draw hx) HP.out HF.out).1.1, (so_file (HX.out.draw hx) HP.out HF.out).2.1.1, (so_file (HX.out.draw hx) HP.out HF.out).2.2.1⟩⟩
          refine wp_region_E (Dr g B a len cap) (Dr.pre g B a len cap) (fun j => decide (8 ≤ j)) (by kernel_rfl) ?_
          refine wpE_val (Dr.pre g B a len cap) (i := 0) (v := ?vc0) rfl (by kernel_rfl) (by kernel_rfl) (by kernel_rfl) (by kernel_rfl) (fun _ _ _ h => h) (by rfl) ?hyc0 ?restc0
          case hyc0 => (intro x hx; obtain ⟨d0, p0, p1, p2⟩ := HLE.out x hx; go_simp; try with_reducible rfl)
          try simp only [Act.put, List.setIfInBounds_toArray, List.set_cons_zero, List.set_cons_succ]
          refine wpE_val (Dr.pre g B a len cap) (i := 1) (v := ?vc1) rfl (by kernel_rfl) (by kernel_rfl) (by kernel_rfl) (by kernel_rfl) (fun _ _ _ h => h) (by rfl) ?hyc1 ?restc1
          case hyc1 => (intro x hx; obtain ⟨d0, p0, p1, p2⟩ := HLE.out x hx; go_simp; try with_reducible rfl)
          try simp only [Act.put, List.setIfInBounds_toArray, List.set_cons_zero, List.set_cons_succ]
          refine wpE_val (Dr.pre g B a len cap) (i := 2) (v := ?vc2) rfl (by kernel_rfl) (by kernel_rfl) (by kernel_rfl) (by kernel_rfl) (fun _ _ _ h => h) (by rfl) ?hyc2 ?restc2
          case hyc2 => (intro x hx; obtain ⟨d0, p0, p1, p2⟩ := HLE.out x hx; go_simp; try with_reducible rfl)
          try simp only [Act.put, List.setIfInBounds_toArray, List.set_cons_zero, List.set_cons_succ]
          refine wpE_val (Dr.pre g B a len cap) (i := 3) (v := ?vc3) rfl (by kernel_rfl) (by kernel_rfl) (by kernel_rfl) (by kernel_rfl) (fun _ _ _ h => h) (by rfl) ?hyc3 ?restc3
          case hyc3 => (intro x hx; obtain ⟨d0, p0, p1, p2⟩ := HLE.out x hx; go_simp; try with_reducible rfl)
          try simp only [Act.put, List.setIfInBounds_toArray, List.set_cons_zero, List.set_cons_succ]
          refine wpE_val (Dr.pre g B a len cap) (i := 4) (v := ?vc4) rfl (by kernel_rfl) (by kernel_rfl) (by kernel_rfl) (by kernel_rfl) (fun _ _ _ h => h) (by rfl) ?hyc4 ?restc4
          case hyc4 => (intro x hx; obtain ⟨d0, p0, p1, p2⟩ := HLE.out x hx; go_simp; try with_reducible rfl)
          try simp only [Act.put, List.setIfInBounds_toArray, List.set_cons_zero, List.set_cons_succ]
          refine wpE_val (Dr.pre g B a len cap) (i := 5) (v := ?vc5) rfl (by kernel_rfl) (by kernel_rfl) (by kernel_rfl) (by kernel_rfl) (fun _ _ _ h => h) (by rfl) ?hyc5 ?restc5
          case hyc5 => (intro x hx; obtain ⟨d0, p0, p1, p2⟩ := HLE.out x hx; go_simp; try with_reducible rfl)
          try simp only [Act.put, List.setIfInBounds_toArray, List.set_cons_zero, List.set_cons_succ]
          refine wpE_val (Dr.pre g B a len cap) (i := 6) (v := ?vc6) rfl (by kernel_rfl) (by kernel_rfl) (by kernel_rfl) (by kernel_rfl) (fun _ _ _ h => h) (by rfl) ?hyc6 ?restc6
          case hyc6 => (intro x hx; obtain ⟨d0, p0, p1, p2⟩ := HLE.out x hx; go_simp; try with_reducible rfl)
          try simp only [Act.put, List.setIfInBounds_toArray, List.set_cons_zero, List.set_cons_succ]
          refine wpE_one (i := 7) (by kernel_rfl) rfl (by rfl) ?_
          intro y hy
          refine ⟨.slice (some ⟨y.heap.size, 0, none⟩) 1 1, y.alloc (.cells #[.string f.name, .string f.text, .int .i64 f.kept] 55), by go_simp, ⟨gb_below ((Below.refl _ _).alloc (Nat.le_refl _) _), fun q => q.below ((Below.refl _ _).alloc (Nat.le_refl _) _)⟩, ?_⟩
          have HXB : Shut (SO w0 (y.alloc (.cells #[.string f.name, .string f.text, .int .i64 f.kept] 55)) g B a len cap (bxS y.heap.size [.string f.name, .string f.text, .int .i64 f.kept] :: bxS db [.slice (some ⟨q, 0, none⟩) n c] :: bxS rb [.slice none 0 0] :: S) 55 3 (.slice (some ⟨q, 0, none⟩) n c) n (fcs fs)) := ⟨(HX.out.draw hy).box #[.string f.name, .string f.text, .int .i64 f.kept] 55⟩
          obtain ⟨wa, hwa⟩ : ∃ q, q = y.alloc (.cells #[.string f.name, .string f.text, .int .i64 f.kept] 55) := ⟨_, rfl⟩
          obtain ⟨lb, hlb⟩ : ∃ q, q = y.heap.size := ⟨_, rfl⟩
          rw [← hwa, ← hlb] at HXB
          rw [← hwa, ← hlb]
          clear hwa hlb hy HLE HX
          have HX := HXB
          clear HXB
          have HLE : Shut (∀ x, Dr g B a len cap wa x → x.cell? ⟨db, 0, none⟩ = some (.slice (some ⟨q, 0, none⟩) n c) ∧ x.cell? ⟨q, p * 3, none⟩ = some (.string f.name) ∧ x.cell? ⟨q, p * 3 + 1, none⟩ = some (.string f.text) ∧ x.cell? ⟨q, p * 3 + 2, none⟩ = some (.int .i64 f.kept)) := ⟨fun x hx => ⟨((HX.out.draw hx).bx 1 rfl 0 _ rfl).1, (so_file (HX.out.draw hx) HP.out HF.out).1.1, (so_file (HX.out.draw hx) HP.out HF.out).2.1.1, (so_file (HX.out.draw hx) HP.out HF.out).2.2.1⟩⟩
          try simp only [Act.put, List.setIfInBounds_toArray, List.set_cons_zero, List.set_cons_succ]
          refine wpE_tail (by kernel_rfl) ?_
          intro x hx
          replace HX : Shut (SO w0 x g B a len cap (bxS lb [.string f.name, .string f.text, .int .i64 f.kept] :: bxS db [.slice (some ⟨q, 0, none⟩) n c] :: bxS rb [.slice none 0 0] :: S) 55 3 (.slice (some ⟨q, 0, none⟩) n c) n (fcs fs)) := ⟨HX.out.draw hx⟩
          clear hx HLE
          have hcl : ∀ j u, (fcells f)[j]? = some u → x.cell? ((⟨lb, 0, none⟩ : Addr).add j) = some u := fun j u hu => by
            have e := (HX.out.bx 0 rfl j u hu).1
            cases j with
            | zero => exact e
            | succ j => simpa [Addr.add] using e
          have hone : ∀ u ∈ fcells f, u.oneCell' = true := fun u hu => by
            simp only [fcells, List.mem_cons, List.not_mem_nil, or_false] at hu
            rcases hu with rfl | rfl | rfl <;> rfl
          obtain ⟨v', z, hrun, ho, hgz, -, hat⟩ := run_append_own_at (P := Try.prog) x w0.heap.size 24 24 55 i0 _ 3 40 Try.underlying24 hin hz0 hz1 hz2 rfl (by decide) _ n _ HX.out.ow.own ⟨lb, 0, none⟩ 1 1 (fcells f) rfl hcl hone (by unfold maxLen; omega) (by omega) (by have := HX.out.ow.sl.bel.size; omega)
          replace ho : z.ownsRow w0.heap.size 55 3 v' (n + 1) (fcs (fs ++ [f])) := by rw [fcs_snoc]; exact ho
          have HM := Shut.mk (HX.out.more (Below.refl _ _) ho hgz hat).tail
          obtain ⟨b9, c9, rfl⟩ := own_row_slice ho
          clear ho hgz hat hcl hone HX
          refine wpA_here (i := 8) (v := .slice b9 (n + 1) c9) (y := z) (by kernel_rfl) rfl (by rfl) (app9 rfl rfl rfl hrun) ?_
          try simp only [Act.put, List.setIfInBounds_toArray, List.set_cons_zero, List.set_cons_succ]
          refine wpA_val (i := 9) (v := .pointer (some ⟨db, 0, none⟩)) rfl (by kernel_rfl) (by kernel_rfl) (by kernel_rfl) (fun _ _ _ h => h) (by rfl) (fun x => by go_simp) ?_
          try simp only [Act.put, List.setIfInBounds_toArray, List.set_cons_zero, List.set_cons_succ]
          obtain ⟨k9, kz9⟩ := HM.out.bx 0 rfl 0 _ rfl
          have HZ := Shut.mk (HM.out.put 0 rfl 0 (.slice b9 (n + 1) c9) (by simp))
          simp only [List.set_cons_zero] at HZ
          replace HG := Shut.mk (HG6.out.snoc HFD.out)
          replace HN : Shut (n + 1 = (fs ++ [f]).length) := ⟨by rw [List.length_append, ← HN.out]; rfl⟩
          refine wpA_store (i := 10) (y := z.setCell ⟨db, 0, none⟩ (.slice b9 (n + 1) c9)) (by kernel_rfl) rfl (by rfl) (by go_simp) (by kernel_rfl) ?_
          try simp only [Act.put]
          clear k9 kz9 HM hrun
          have HW := HZ
          clear HZ
          have z0 := (HW.out.bx 0 rfl 0 _ rfl).1
          obtain ⟨r0, r0z⟩ := HW.out.bx 1 rfl 0 _ rfl
          have HE := Shut.mk ((HW.out.put 1 rfl 0 (.slice b9 (n + 1) c9) (by simp)).tail.tail)
          go_wp2_with fail
          refine bodyPost_ret (v := .agg #[.slice b9 (n + 1) c9]) (by simp [results, Try.results14, go_sem, r0]) rfl ?_
          exact dk_post HN.out HG.out HE.out
        by_cases h2 : sw = 2
        · have e0 : (sw == 0) = false := by simpa using h0
          have e1 : (sw == 1) = false := by simpa using h1
          have e2 : (sw == 2) = true := by simpa using h2
          go_upto_region 16 with fail
          have HX : Shut (SO w0 w4.drew g B a len cap (bxS db [.slice (some ⟨q, 0, none⟩) n c] :: bxS rb [.slice none 0 0] :: S) 55 3 (.slice (some ⟨q, 0, none⟩) n c) n (fcs fs)) := ⟨HW.out.below (Below.drew (Below.refl _ _))⟩
          have HLE : Shut (∀ x, Dr g B a len cap w4.drew x → x.cell? ⟨db, 0, none⟩ = some (.slice (some ⟨q, 0, none⟩) n c)) := ⟨fun x hx => ((HX.out.draw hx).bx 0 rfl 0 _ rfl).1⟩
          refine wp_region_E (Dr g B a len cap) (Dr.pre g B a len cap) (fun j => decide (6 ≤ j)) (by kernel_rfl) ?_
          refine wpE_val (Dr.pre g B a len cap) (i := 0) (v := ?vd0) rfl (by kernel_rfl) (by kernel_rfl) (by kernel_rfl) (by kernel_rfl) (fun _ _ _ h => h) (by rfl) ?hyd0 ?restd0
          case hyd0 => (intro x hx; have d0 := HLE.out x hx; go_simp; try with_reducible rfl)
          try simp only [Act.put, List.setIfInBounds_toArray, List.set_cons_zero, List.set_cons_succ]
          refine wpE_val (Dr.pre g B a len cap) (i := 1) (v := ?vd1) rfl (by kernel_rfl) (by kernel_rfl) (by kernel_rfl) (by kernel_rfl) (fun _ _ _ h => h) (by rfl) ?hyd1 ?restd1
          case hyd1 => (intro x hx; have d0 := HLE.out x hx; go_simp; try with_reducible rfl)
          try simp only [Act.put, List.setIfInBounds_toArray, List.set_cons_zero, List.set_cons_succ]
          refine wpE_val (Dr.pre g B a len cap) (i := 2) (v := ?vd2) rfl (by kernel_rfl) (by kernel_rfl) (by kernel_rfl) (by kernel_rfl) (fun _ _ _ h => h) (by rfl) ?hyd2 ?restd2
          case hyd2 => (intro x hx; have d0 := HLE.out x hx; go_simp; try with_reducible rfl)
          try simp only [Act.put, List.setIfInBounds_toArray, List.set_cons_zero, List.set_cons_succ]
          refine wpE_val (Dr.pre g B a len cap) (i := 3) (v := ?vd3) rfl (by kernel_rfl) (by kernel_rfl) (by kernel_rfl) (by kernel_rfl) (fun _ _ _ h => h) (by rfl) ?hyd3 ?restd3
          case hyd3 => (intro x hx; have d0 := HLE.out x hx; go_simp; try with_reducible rfl)
          try simp only [Act.put, List.setIfInBounds_toArray, List.set_cons_zero, List.set_cons_succ]
          refine wpE_one (i := 4) (by kernel_rfl) rfl (by rfl) ?_
          intro y hy
          refine ⟨.slice (some ⟨y.heap.size, 0, none⟩) 3 3, y.alloc (.cells #[.string ⟨#[]⟩, .string ⟨#[49, 50, 51, 52, 53, 54, 55, 56]⟩, .string ⟨#[49, 50, 51, 52, 53, 54, 55, 56, 57]⟩] 9), by go_simp, ⟨gb_below ((Below.refl _ _).alloc (Nat.le_refl _) _), fun q => q.below ((Below.refl _ _).alloc (Nat.le_refl _) _)⟩, ?_⟩
          have HXB : Shut (SO w0 (y.alloc (.cells #[.string ⟨#[]⟩, .string ⟨#[49, 50, 51, 52, 53, 54, 55, 56]⟩, .string ⟨#[49, 50, 51, 52, 53, 54, 55, 56, 57]⟩] 9)) g B a len cap (bxS y.heap.size [.string ⟨#[]⟩, .string ⟨#[49, 50, 51, 52, 53, 54, 55, 56]⟩, .string ⟨#[49, 50, 51, 52, 53, 54, 55, 56, 57]⟩] :: bxS db [.slice (some ⟨q, 0, none⟩) n c] :: bxS rb [.slice none 0 0] :: S) 55 3 (.slice (some ⟨q, 0, none⟩) n c) n (fcs fs)) := ⟨(HX.out.draw hy).box #[.string ⟨#[]⟩, .string ⟨#[49, 50, 51, 52, 53, 54, 55, 56]⟩, .string ⟨#[49, 50, 51, 52, 53, 54, 55, 56, 57]⟩] 9⟩
          obtain ⟨wa, hwa⟩ : ∃ q, q = y.alloc (.cells #[.string ⟨#[]⟩, .string ⟨#[49, 50, 51, 52, 53, 54, 55, 56]⟩, .string ⟨#[49, 50, 51, 52, 53, 54, 55, 56, 57]⟩] 9) := ⟨_, rfl⟩
          obtain ⟨lb, hlb⟩ : ∃ q, q = y.heap.size := ⟨_, rfl⟩
          rw [← hwa, ← hlb] at HXB
          rw [← hwa, ← hlb]
          clear hwa hlb hy HLE HX
          have HX := HXB
          clear HXB
          have HLE : Shut (∀ x, Dr g B a len cap wa x → x.cell? ⟨db, 0, none⟩ = some (.slice (some ⟨q, 0, none⟩) n c)) := ⟨fun x hx => ((HX.out.draw hx).bx 1 rfl 0 _ rfl).1⟩
          try simp only [Act.put, List.setIfInBounds_toArray, List.set_cons_zero, List.set_cons_succ]
          refine wpE_onecall (f := 33) (args := #[.pointer (some ⟨g, 0, none⟩), .slice (some ⟨lb, 0, none⟩) 3 3]) (i := 5) (by kernel_rfl) rfl (by rfl) (fun x hx => by go_simp) (fun x hx => (l01Pick_in (fun z => z.size ≤ 9) x g B a len cap lb 3 (by decide) (by decide) (so_ne (HX.out.draw hx)) (three_texts (HX.out.draw hx) (by decide) (by decide) (by decide)) (HX.out.draw hx).cur).mono ?_)
          rintro e w5 ⟨z, rfl, hz9, hc5, hg5⟩
          have hd : Dr g B a len cap x w5 := ⟨hg5, fun _ => hc5⟩
          clear hc5 hg5
          refine ⟨_, rfl, hd, ?_⟩
          replace HX : Shut (SO w0 w5 g B a len cap (bxS lb [.string ⟨#[]⟩, .string ⟨#[49, 50, 51, 52, 53, 54, 55, 56]⟩, .string ⟨#[49, 50, 51, 52, 53, 54, 55, 56, 57]⟩] :: bxS db [.slice (some ⟨q, 0, none⟩) n c] :: bxS rb [.slice none 0 0] :: S) 55 3 (.slice (some ⟨q, 0, none⟩) n c) n (fcs fs)) := ⟨(HX.out.draw hx).draw hd⟩
          clear hd hx HLE
          have HLE : Shut (∀ x, Dr g B a len cap w5 x → x.cell? ⟨db, 0, none⟩ = some (.slice (some ⟨q, 0, none⟩) n c)) := ⟨fun x hx => ((HX.out.draw hx).bx 1 rfl 0 _ rfl).1⟩
          try simp only [Act.put, List.setIfInBounds_toArray, List.set_cons_zero, List.set_cons_succ]
          refine wpE_pure (Dr.pre g B a len cap) (i := 6) (v := ?vd6) rfl (by kernel_rfl) (by kernel_rfl) (by kernel_rfl) (by kernel_rfl) (fun _ _ _ h => h) (by rfl) ?hyd6 ?restd6
          case hyd6 => (intro x; go_simp; try with_reducible rfl)
          try simp only [Act.put, List.setIfInBounds_toArray, List.set_cons_zero, List.set_cons_succ]
          refine wpE_pure (Dr.pre g B a len cap) (i := 7) (v := ?vd7) rfl (by kernel_rfl) (by kernel_rfl) (by kernel_rfl) (by kernel_rfl) (fun _ _ _ h => h) (by rfl) ?hyd7 ?restd7
          case hyd7 => (intro x; go_simp; try with_reducible rfl)
          try simp only [Act.put, List.setIfInBounds_toArray, List.set_cons_zero, List.set_cons_succ]
          refine wpE_tail (by kernel_rfl) ?_
          intro x hx
          replace HX : Shut (SO w0 x g B a len cap (bxS lb [.string ⟨#[]⟩, .string ⟨#[49, 50, 51, 52, 53, 54, 55, 56]⟩, .string ⟨#[49, 50, 51, 52, 53, 54, 55, 56, 57]⟩] :: bxS db [.slice (some ⟨q, 0, none⟩) n c] :: bxS rb [.slice none 0 0] :: S) 55 3 (.slice (some ⟨q, 0, none⟩) n c) n (fcs fs)) := ⟨HX.out.draw hx⟩
          clear hx HLE
          obtain ⟨k9, kz9⟩ := (so_file HX.out HP.out HF.out).1
          have HZ := Shut.mk (HX.out.cell (p * 3 + 0) (.string z))
          rw [fcs_set fs p HP.out 0 (by omega) _ ⟨z, f.text, f.kept⟩ (by rw [← HF.out]; rfl)] at HZ
          simp only [Nat.add_zero] at HZ
          replace HZ := Shut.mk HZ.out.tail
          replace HG := Shut.mk (HG6.out.set (k := p) (f := ⟨z, f.text, f.kept⟩) ⟨hz9, HFD.out.2⟩)
          replace HN : Shut (n = (fs.set p ⟨z, f.text, f.kept⟩).length) := ⟨by rw [List.length_set]; exact HN.out⟩
          clear HX
          refine wpA_store (y := x.setCell ⟨q, p * 3, none⟩ (.string z)) (i := 8) (by kernel_rfl) rfl (by rfl) (by go_simp) (by kernel_rfl) ?_
          try simp only [Act.put]
          clear k9 kz9
          have HW := HZ
          clear HZ
          have z0 := (HW.out.bx 0 rfl 0 _ rfl).1
          obtain ⟨r0, r0z⟩ := HW.out.bx 1 rfl 0 _ rfl
          have HE := Shut.mk ((HW.out.put 1 rfl 0 (.slice (some ⟨q, 0, none⟩) n c) (by simp)).tail.tail)
          go_wp2_with fail
          refine bodyPost_ret (v := .agg #[.slice (some ⟨q, 0, none⟩) n c]) (by simp [results, Try.results14, go_sem, r0]) rfl ?_
          exact dk_post HN.out HG.out HE.out
        by_cases h3 : sw = 3
        · have e0 : (sw == 0) = false := by simpa using h0
          have e1 : (sw == 1) = false := by simpa using h1
          have e2 : (sw == 2) = false := by simpa using h2
          have e3 : (sw == 3) = true := by simpa using h3
          go_upto_region 18 with fail
          have hb9 := (Below.refl w4.heap.size w4).alloc (Nat.le_refl _) (.cells #[] 55)
          have ho9 := World.ownsRow_made (e := 55) (size := 3) (base := w4.heap.size) w4 #[] 0 (Nat.le_refl _) (by decide) rfl
          have hq9 := HW.out.new hb9 ho9
          obtain ⟨d0, dz0⟩ := hq9.bx 0 rfl 0 _ rfl
          have HQ := Shut.mk (hq9.put 0 rfl 0 (.slice (some ⟨w4.heap.size, 0, none⟩) 0 0) (by simp))
          simp only [List.set_cons_zero] at HQ
          clear hb9 ho9 hq9
          go_upto_region 19 with fail
          obtain ⟨lq, hlq⟩ : ∃ q, q = w4.heap.size := ⟨_, rfl⟩
          rw [← hlq] at HQ ⊢
          refine wp_shade (fun W' => SO w0 W' g B a len cap (bxS db [.slice (some ⟨lq, 0, none⟩) 0 0] :: bxS rb [.slice none 0 0] :: S) 55 3 (.slice (some ⟨lq, 0, none⟩) 0 0) 0 (fcs [])) HQ.out ?_
          intro W5 h5
          replace HW := Shut.mk h5
          clear h5 HQ hlq d0 dz0 HF HFD HP HN HG HG6 hwr hft
          go_wp2_with fail
          go_loopw [7] (fun i7 wr => ∃ (k n c : Nat) (b : Option Addr) (fs : List FM), i7 = .int .i64 k ∧ k ≤ 31 ∧ n ≤ k ∧ Shut (n = fs.length) ∧ Shut (DG fs k) ∧ Shut (SO w0 wr g B a len cap (bxS db [.slice b n c] :: bxS rb [.slice none 0 0] :: S) 55 3 (.slice b n c) n (fcs fs))) (fun i7 _ => 31 - (intOf i7).toNat)
          case atStart => exact ⟨0, 0, 0, _, [], rfl, by omega, by omega, ⟨rfl⟩, ⟨⟨Nat.le_refl _, fun f hf => by cases hf⟩⟩, HW⟩
          case round =>
            clear HW
            obtain ⟨k, n, c, b, fs, rfl, hk, hnk, HN, HG, HW⟩ := hrel
            have k0 : (0 : Int) ≤ (k : Int) := by omega
            go_wp2_with fail
            refine (HW.out.sd.pick 2 (by omega)).mono ?_
            rintro e w6 ⟨y, rfl, y0, y1, hd⟩
            obtain ⟨ny, rfl⟩ := Int.eq_ofNat_of_zero_le y0
            replace HW := Shut.mk (HW.out.draw hd)
            clear hd
            by_cases hlt : k < 30 + ny
            · have hlt' : (k : Int) < 30 + (ny : Int) := by omega
              have hwk : IntKind.i64.wrap (100 + (k : Int)) = 100 + (k : Int) := IntWalk.i64_in _ ⟨by omega, by omega⟩
              go_upto_region 22 with fail
              have HX : Shut (SO w0 w6.drew g B a len cap (bxS db [.slice b n c] :: bxS rb [.slice none 0 0] :: S) 55 3 (.slice b n c) n (fcs fs)) := ⟨HW.out.below (Below.drew (Below.refl _ _))⟩
              have HLE : Shut (∀ x, Dr g B a len cap w6.drew x → x.cell? ⟨db, 0, none⟩ = some (.slice b n c)) := ⟨fun x hx => ((HX.out.draw hx).bx 0 rfl 0 _ rfl).1⟩
              refine wp_region_E (Dr g B a len cap) (Dr.pre g B a len cap) (fun j => decide (8 ≤ j)) (by kernel_rfl) ?_
              refine wpE_val (Dr.pre g B a len cap) (i := 0) (v := ?vg0) rfl (by kernel_rfl) (by kernel_rfl) (by kernel_rfl) (by kernel_rfl) (fun _ _ _ h => h) (by rfl) ?hyg0 ?restg0
              case hyg0 => (intro x hx; have d0 := HLE.out x hx; go_simp; try with_reducible rfl)
              try simp only [Act.put, List.setIfInBounds_toArray, List.set_cons_zero, List.set_cons_succ]
              refine wpE_val (Dr.pre g B a len cap) (i := 1) (v := ?vg1) rfl (by kernel_rfl) (by kernel_rfl) (by kernel_rfl) (by kernel_rfl) (fun _ _ _ h => h) (by rfl) ?hyg1 ?restg1
              case hyg1 => (intro x hx; have d0 := HLE.out x hx; go_simp; try with_reducible rfl)
              try simp only [Act.put, List.setIfInBounds_toArray, List.set_cons_zero, List.set_cons_succ]
              refine wpE_val (Dr.pre g B a len cap) (i := 2) (v := ?vg2) rfl (by kernel_rfl) (by kernel_rfl) (by kernel_rfl) (by kernel_rfl) (fun _ _ _ h => h) (by rfl) ?hyg2 ?restg2
              case hyg2 => (intro x hx; have d0 := HLE.out x hx; go_simp; try with_reducible rfl)
              try simp only [Act.put, List.setIfInBounds_toArray, List.set_cons_zero, List.set_cons_succ]
              refine wpE_val (Dr.pre g B a len cap) (i := 3) (v := ?vg3) rfl (by kernel_rfl) (by kernel_rfl) (by kernel_rfl) (by kernel_rfl) (fun _ _ _ h => h) (by rfl) ?hyg3 ?restg3
              case hyg3 => (intro x hx; have d0 := HLE.out x hx; go_simp; try with_reducible rfl)
              try simp only [Act.put, List.setIfInBounds_toArray, List.set_cons_zero, List.set_cons_succ]
              refine wpE_onecall (f := 34) (args := #[.int .i64 (100 + (k : Int))]) (i := 4) (by kernel_rfl) rfl (by rfl) (fun x hx => by go_simp) (fun x hx => (dec9 (100 + (k : Int)) x (by omega) (by omega)).mono ?_)
              rintro e w7 ⟨tt, rfl, hts, hb⟩
              refine ⟨_, rfl, ⟨gb_below hb, fun q => q.below hb⟩, ?_⟩
              replace HX : Shut (SO w0 w7 g B a len cap (bxS db [.slice b n c] :: bxS rb [.slice none 0 0] :: S) 55 3 (.slice b n c) n (fcs fs)) := ⟨(HX.out.draw hx).below hb⟩
              clear hb hx HLE
              have HLE : Shut (∀ x, Dr g B a len cap w7 x → x.cell? ⟨db, 0, none⟩ = some (.slice b n c)) := ⟨fun x hx => ((HX.out.draw hx).bx 0 rfl 0 _ rfl).1⟩
              try simp only [Act.put, List.setIfInBounds_toArray, List.set_cons_zero, List.set_cons_succ]
              have hts2 : ¬ 9223372036854775807 < 1 + tt.size := by omega
              refine wpE_val (Dr.pre g B a len cap) (i := 5) (v := ?vg5) rfl (by kernel_rfl) (by kernel_rfl) (by kernel_rfl) (by kernel_rfl) (fun _ _ _ h => h) (by rfl) ?hyg5 ?restg5
              case hyg5 => (intro x hx; have d0 := HLE.out x hx; go_simp; try with_reducible rfl)
              try simp only [Act.put, List.setIfInBounds_toArray, List.set_cons_zero, List.set_cons_succ]
              clear hts2
              obtain ⟨nf, hnf⟩ : ∃ q : ByteArray, q = ⟨#[102]⟩ ++ tt := ⟨_, rfl⟩
              have hnfs : nf.size ≤ 9 := by
                rw [hnf, ByteArray.size_append]
                have h1 : (⟨#[102]⟩ : ByteArray).size = 1 := rfl
                omega
              rw [← hnf]
              clear hnf hts
              refine wpE_val (Dr.pre g B a len cap) (i := 6) (v := ?vg6) rfl (by kernel_rfl) (by kernel_rfl) (by kernel_rfl) (by kernel_rfl) (fun _ _ _ h => h) (by rfl) ?hyg6 ?restg6
              case hyg6 => (intro x hx; have d0 := HLE.out x hx; go_simp; try with_reducible rfl)
              try simp only [Act.put, List.setIfInBounds_toArray, List.set_cons_zero, List.set_cons_succ]
              refine wpE_one (i := 7) (by kernel_rfl) rfl (by rfl) ?_
              intro y hy
              refine ⟨.slice (some ⟨y.heap.size, 0, none⟩) 1 1, y.alloc (.cells #[.string nf, .string ⟨#[]⟩, .int .i64 0] 55), by go_simp, ⟨gb_below ((Below.refl _ _).alloc (Nat.le_refl _) _), fun q => q.below ((Below.refl _ _).alloc (Nat.le_refl _) _)⟩, ?_⟩
              have HXB : Shut (SO w0 (y.alloc (.cells #[.string nf, .string ⟨#[]⟩, .int .i64 0] 55)) g B a len cap (bxS y.heap.size [.string nf, .string ⟨#[]⟩, .int .i64 0] :: bxS db [.slice b n c] :: bxS rb [.slice none 0 0] :: S) 55 3 (.slice b n c) n (fcs fs)) := ⟨(HX.out.draw hy).box #[.string nf, .string ⟨#[]⟩, .int .i64 0] 55⟩
              obtain ⟨wa, hwa⟩ : ∃ q, q = y.alloc (.cells #[.string nf, .string ⟨#[]⟩, .int .i64 0] 55) := ⟨_, rfl⟩
              obtain ⟨lb, hlb⟩ : ∃ q, q = y.heap.size := ⟨_, rfl⟩
              rw [← hwa, ← hlb] at HXB
              rw [← hwa, ← hlb]
              clear hwa hlb hy HLE HX
              have HX := HXB
              clear HXB
              have HLE : Shut (∀ x, Dr g B a len cap wa x → x.cell? ⟨db, 0, none⟩ = some (.slice b n c)) := ⟨fun x hx => ((HX.out.draw hx).bx 1 rfl 0 _ rfl).1⟩
              try simp only [Act.put, List.setIfInBounds_toArray, List.set_cons_zero, List.set_cons_succ]
              refine wpE_tail (by kernel_rfl) ?_
              intro x hx
              replace HX : Shut (SO w0 x g B a len cap (bxS lb [.string nf, .string ⟨#[]⟩, .int .i64 0] :: bxS db [.slice b n c] :: bxS rb [.slice none 0 0] :: S) 55 3 (.slice b n c) n (fcs fs)) := ⟨HX.out.draw hx⟩
              clear hx HLE
              have hcl : ∀ j u, (fcells ⟨nf, ⟨#[]⟩, 0⟩)[j]? = some u → x.cell? ((⟨lb, 0, none⟩ : Addr).add j) = some u := fun j u hu => by
                have e := (HX.out.bx 0 rfl j u hu).1
                cases j with
                | zero => exact e
                | succ j => simpa [Addr.add] using e
              have hone : ∀ u ∈ fcells ⟨nf, ⟨#[]⟩, 0⟩, u.oneCell' = true := fun u hu => by
                simp only [fcells, List.mem_cons, List.not_mem_nil, or_false] at hu
                rcases hu with rfl | rfl | rfl <;> rfl
              obtain ⟨v', z, hrun, ho, hgz, -, hat⟩ := run_append_own_at (P := Try.prog) x w0.heap.size 24 24 55 i0 _ 3 40 Try.underlying24 hin hz0 hz1 hz2 rfl (by decide) _ n _ HX.out.ow.own ⟨lb, 0, none⟩ 1 1 (fcells ⟨nf, ⟨#[]⟩, 0⟩) rfl hcl hone (by unfold maxLen; omega) (by omega) (by have := HX.out.ow.sl.bel.size; omega)
              replace ho : z.ownsRow w0.heap.size 55 3 v' (n + 1) (fcs (fs ++ [(⟨nf, ⟨#[]⟩, 0⟩ : FM)])) := by rw [fcs_snoc]; exact ho
              have HM := Shut.mk (HX.out.more (Below.refl _ _) ho hgz hat).tail
              obtain ⟨b9, c9, rfl⟩ := own_row_slice ho
              clear ho hgz hat hcl hone HX
              refine wpA_here (i := 8) (v := .slice b9 (n + 1) c9) (y := z) (by kernel_rfl) rfl (by rfl) (app9 rfl rfl rfl hrun) ?_
              try simp only [Act.put, List.setIfInBounds_toArray, List.set_cons_zero, List.set_cons_succ]
              refine wpA_val (i := 9) (v := .pointer (some ⟨db, 0, none⟩)) rfl (by kernel_rfl) (by kernel_rfl) (by kernel_rfl) (fun _ _ _ h => h) (by rfl) (fun x => by go_simp) ?_
              try simp only [Act.put, List.setIfInBounds_toArray, List.set_cons_zero, List.set_cons_succ]
              obtain ⟨k9, kz9⟩ := HM.out.bx 0 rfl 0 _ rfl
              have HZ := Shut.mk (HM.out.put 0 rfl 0 (.slice b9 (n + 1) c9) (by simp))
              simp only [List.set_cons_zero] at HZ
              replace HG := Shut.mk (HG.out.snoc (f := ⟨nf, ⟨#[]⟩, 0⟩) ⟨hnfs, by show (0 : Nat) ≤ _; omega, by show -1 ≤ (0 : Int); omega, by show (0 : Int) ≤ 20002; omega⟩)
              replace HN : Shut (n + 1 = (fs ++ [(⟨nf, ⟨#[]⟩, 0⟩ : FM)]).length) := ⟨by rw [List.length_append, ← HN.out]; rfl⟩
              refine wpA_store (i := 10) (y := z.setCell ⟨db, 0, none⟩ (.slice b9 (n + 1) c9)) (by kernel_rfl) rfl (by rfl) (by go_simp) (by kernel_rfl) ?_
              try simp only [Act.put]
              clear k9 kz9 HM hrun
              have HW := HZ
              clear HZ
              go_wp2_with fail
              go_roundw
              case rel => exact ⟨k + 1, n + 1, c9, b9, _, by go_num, by omega, by omega, HN, HG, HW⟩
              case measure => simp [intOf]; omega
            · have hlt' : ¬ (k : Int) < 30 + (ny : Int) := by omega
              replace HG := Shut.mk (HG.out.more (show k ≤ 31 by omega))
              have z0 := (HW.out.bx 0 rfl 0 _ rfl).1
              obtain ⟨r0, r0z⟩ := HW.out.bx 1 rfl 0 _ rfl
              have HE := Shut.mk ((HW.out.put 1 rfl 0 (.slice b n c) (by simp)).tail.tail)
              go_wp2_with fail
              refine bodyPost_ret (v := .agg #[.slice b n c]) (by simp [results, Try.results14, go_sem, r0]) rfl ?_
              exact dk_post HN.out HG.out HE.out
        by_cases h4 : sw = 4
        · have e0 : (sw == 0) = false := by simpa using h0
          have e1 : (sw == 1) = false := by simpa using h1
          have e2 : (sw == 2) = false := by simpa using h2
          have e3 : (sw == 3) = false := by simpa using h3
          have e4 : (sw == 4) = true := by simpa using h4
          go_upto_region 24 with fail
          have HX : Shut (SO w0 w4.drew g B a len cap (bxS db [.slice (some ⟨q, 0, none⟩) n c] :: bxS rb [.slice none 0 0] :: S) 55 3 (.slice (some ⟨q, 0, none⟩) n c) n (fcs fs)) := ⟨HW.out.below (Below.drew (Below.refl _ _))⟩
          have HLE : Shut (∀ x, Dr g B a len cap w4.drew x → x.cell? ⟨db, 0, none⟩ = some (.slice (some ⟨q, 0, none⟩) n c) ∧ x.cell? ⟨q, p * 3 + 1, none⟩ = some (.string f.text)) := ⟨fun x hx => ⟨((HX.out.draw hx).bx 0 rfl 0 _ rfl).1, (so_file (HX.out.draw hx) HP.out HF.out).2.1.1⟩⟩
          refine wp_region_E (Dr g B a len cap) (Dr.pre g B a len cap) (fun j => decide (7 ≤ j)) (by kernel_rfl) ?_
          refine wpE_val (Dr.pre g B a len cap) (i := 0) (v := ?ve0) rfl (by kernel_rfl) (by kernel_rfl) (by kernel_rfl) (by kernel_rfl) (fun _ _ _ h => h) (by rfl) ?hye0 ?reste0
          case hye0 => (intro x hx; obtain ⟨d0, p0⟩ := HLE.out x hx; go_simp; try with_reducible rfl)
          try simp only [Act.put, List.setIfInBounds_toArray, List.set_cons_zero, List.set_cons_succ]
          refine wpE_val (Dr.pre g B a len cap) (i := 1) (v := ?ve1) rfl (by kernel_rfl) (by kernel_rfl) (by kernel_rfl) (by kernel_rfl) (fun _ _ _ h => h) (by rfl) ?hye1 ?reste1
          case hye1 => (intro x hx; obtain ⟨d0, p0⟩ := HLE.out x hx; go_simp; try with_reducible rfl)
          try simp only [Act.put, List.setIfInBounds_toArray, List.set_cons_zero, List.set_cons_succ]
          refine wpE_val (Dr.pre g B a len cap) (i := 2) (v := ?ve2) rfl (by kernel_rfl) (by kernel_rfl) (by kernel_rfl) (by kernel_rfl) (fun _ _ _ h => h) (by rfl) ?hye2 ?reste2
          case hye2 => (intro x hx; obtain ⟨d0, p0⟩ := HLE.out x hx; go_simp; try with_reducible rfl)
          try simp only [Act.put, List.setIfInBounds_toArray, List.set_cons_zero, List.set_cons_succ]
          refine wpE_val (Dr.pre g B a len cap) (i := 3) (v := ?ve3) rfl (by kernel_rfl) (by kernel_rfl) (by kernel_rfl) (by kernel_rfl) (fun _ _ _ h => h) (by rfl) ?hye3 ?reste3
          case hye3 => (intro x hx; obtain ⟨d0, p0⟩ := HLE.out x hx; go_simp; try with_reducible rfl)
          try simp only [Act.put, List.setIfInBounds_toArray, List.set_cons_zero, List.set_cons_succ]
          refine wpE_onecall (f := 28) (args := #[.pointer (some ⟨g, 0, none⟩), .int .i64 3]) (i := 4) (by kernel_rfl) rfl (by rfl) (fun x hx => by go_simp) (fun x hx => ((HX.out.draw hx).sd.pick 3 (by omega)).mono ?_)
          rintro e w5 ⟨z, rfl, z0, z1, hd⟩
          refine ⟨_, rfl, hd, ?_⟩
          replace HX : Shut (SO w0 w5 g B a len cap (bxS db [.slice (some ⟨q, 0, none⟩) n c] :: bxS rb [.slice none 0 0] :: S) 55 3 (.slice (some ⟨q, 0, none⟩) n c) n (fcs fs)) := ⟨(HX.out.draw hx).draw hd⟩
          clear hd hx HLE
          have HLE : Shut (∀ x, Dr g B a len cap w5 x → x.cell? ⟨db, 0, none⟩ = some (.slice (some ⟨q, 0, none⟩) n c) ∧ x.cell? ⟨q, p * 3 + 1, none⟩ = some (.string f.text)) := ⟨fun x hx => ⟨((HX.out.draw hx).bx 0 rfl 0 _ rfl).1, (so_file (HX.out.draw hx) HP.out HF.out).2.1.1⟩⟩
          have z2 : z ≤ 2 := by omega
          have hwz : IntKind.i64.wrap (19999 + z) = 19999 + z := IntWalk.i64_in _ ⟨by omega, by omega⟩
          clear z1
          try simp only [Act.put, List.setIfInBounds_toArray, List.set_cons_zero, List.set_cons_succ]
          refine wpE_val (Dr.pre g B a len cap) (i := 5) (v := ?ve5) rfl (by kernel_rfl) (by kernel_rfl) (by kernel_rfl) (by kernel_rfl) (fun _ _ _ h => h) (by rfl) ?hye5 ?reste5
          case hye5 => (intro x hx; obtain ⟨d0, p0⟩ := HLE.out x hx; go_simp; try with_reducible rfl)
          try simp only [Act.put, List.setIfInBounds_toArray, List.set_cons_zero, List.set_cons_succ]
          obtain ⟨m9, hm9⟩ : ∃ m : Nat, 19999 + z = (m : Int) := ⟨(19999 + z).toNat, by omega⟩
          have hmb : m9 ≤ 20001 := by omega
          rw [hm9]
          refine wpE_onecall (f := 35) (args := #[.int .i64 (m9 : Int), .int .u8 65]) (i := 6) (by kernel_rfl) rfl (by rfl) (fun x hx => by go_simp) (fun x hx => (l01Long_any x m9 65 (by omega)).mono ?_)
          rintro e w6 ⟨t, rfl, ht, hb⟩
          refine ⟨_, rfl, ⟨gb_below hb, fun q => q.below hb⟩, ?_⟩
          have htb : t.size ≤ 20001 := by omega
          clear ht
          replace HX : Shut (SO w0 w6 g B a len cap (bxS db [.slice (some ⟨q, 0, none⟩) n c] :: bxS rb [.slice none 0 0] :: S) 55 3 (.slice (some ⟨q, 0, none⟩) n c) n (fcs fs)) := ⟨(HX.out.draw hx).below hb⟩
          clear hb hx HLE
          have HLE : Shut (∀ x, Dr g B a len cap w6 x → x.cell? ⟨db, 0, none⟩ = some (.slice (some ⟨q, 0, none⟩) n c) ∧ x.cell? ⟨q, p * 3 + 1, none⟩ = some (.string f.text)) := ⟨fun x hx => ⟨((HX.out.draw hx).bx 0 rfl 0 _ rfl).1, (so_file (HX.out.draw hx) HP.out HF.out).2.1.1⟩⟩
          try simp only [Act.put, List.setIfInBounds_toArray, List.set_cons_zero, List.set_cons_succ]
          refine wpE_pure (Dr.pre g B a len cap) (i := 7) (v := ?ve7) rfl (by kernel_rfl) (by kernel_rfl) (by kernel_rfl) (by kernel_rfl) (fun _ _ _ h => h) (by rfl) ?hye7 ?reste7
          case hye7 => (intro x; go_simp; try with_reducible rfl)
          try simp only [Act.put, List.setIfInBounds_toArray, List.set_cons_zero, List.set_cons_succ]
          refine wpE_pure (Dr.pre g B a len cap) (i := 8) (v := ?ve8) rfl (by kernel_rfl) (by kernel_rfl) (by kernel_rfl) (by kernel_rfl) (fun _ _ _ h => h) (by rfl) ?hye8 ?reste8
          case hye8 => (intro x; go_simp; try with_reducible rfl)
          try simp only [Act.put, List.setIfInBounds_toArray, List.set_cons_zero, List.set_cons_succ]
          refine wpE_tail (by kernel_rfl) ?_
          intro x hx
          replace HX : Shut (SO w0 x g B a len cap (bxS db [.slice (some ⟨q, 0, none⟩) n c] :: bxS rb [.slice none 0 0] :: S) 55 3 (.slice (some ⟨q, 0, none⟩) n c) n (fcs fs)) := ⟨HX.out.draw hx⟩
          clear hx HLE
          obtain ⟨k9, kz9⟩ := (so_file HX.out HP.out HF.out).2.1
          have HZ := Shut.mk (HX.out.cell (p * 3 + 1) (.string t))
          rw [fcs_set fs p HP.out 1 (by omega) _ ⟨f.name, t, f.kept⟩ (by rw [← HF.out]; rfl)] at HZ
          replace HG := Shut.mk (HG6.out.set (k := p) (f := ⟨f.name, t, f.kept⟩) ⟨HFD.out.1, htb, HFD.out.2.2⟩)
          replace HN : Shut (n = (fs.set p ⟨f.name, t, f.kept⟩).length) := ⟨by rw [List.length_set]; exact HN.out⟩
          clear HX
          refine wpA_store (y := x.setCell ⟨q, p * 3 + 1, none⟩ (.string t)) (i := 9) (by kernel_rfl) rfl (by rfl) (by go_simp) (by kernel_rfl) ?_
          try simp only [Act.put]
          clear k9 kz9
          have HW := HZ
          clear HZ
          have z0 := (HW.out.bx 0 rfl 0 _ rfl).1
          obtain ⟨r0, r0z⟩ := HW.out.bx 1 rfl 0 _ rfl
          have HE := Shut.mk ((HW.out.put 1 rfl 0 (.slice (some ⟨q, 0, none⟩) n c) (by simp)).tail.tail)
          go_wp2_with fail
          refine bodyPost_ret (v := .agg #[.slice (some ⟨q, 0, none⟩) n c]) (by simp [results, Try.results14, go_sem, r0]) rfl ?_
          exact dk_post HN.out HG.out HE.out
        have e0 : (sw == 0) = false := by simpa using h0
        have e1 : (sw == 1) = false := by simpa using h1
        have e2 : (sw == 2) = false := by simpa using h2
        have e3 : (sw == 3) = false := by simpa using h3
        have e4 : (sw == 4) = false := by simpa using h4
        replace HG := HG6
        have z0 := (HW.out.bx 0 rfl 0 _ rfl).1
        obtain ⟨r0, r0z⟩ := HW.out.bx 1 rfl 0 _ rfl
        have HE := Shut.mk ((HW.out.put 1 rfl 0 (.slice (some ⟨q, 0, none⟩) n c) (by simp)).tail.tail)
        go_wp2_with fail
        refine bodyPost_ret (v := .agg #[.slice (some ⟨q, 0, none⟩) n c]) (by simp [results, Try.results14, go_sem, r0]) rfl ?_
        exact dk_post HN.out HG.out HE.out
end Go.Proofs.Ytplcdcfhfaghiaa
/- ImB: The program's own copy of files, what is left of a file, and the loss of power. -/
namespace Go.Proofs.Ytplcdcfhfaghiaa
set_option maxRecDepth 100000
open Go.RowKit
attribute [local go_sem ↓] Go.wp_at_zero Go.wp_at_succ

theorem cell_lt {w : World} {p : Addr} {v : Value} (h : w.cell? p = some v) : p.block < w.heap.size := by
  by_cases c : p.block < w.heap.size
  · exact c
  · exfalso
    unfold World.cell? at h
    rw [Array.getElem?_eq_none (by omega)] at h
    simp at h
/-- A file's three cells. -/
def C3 (w : World) (g : Nat) (f : FM) : Prop := w.cell? ⟨g, 0, none⟩ = some (.string f.name) ∧ w.cell? ⟨g, 1, none⟩ = some (.string f.text) ∧ w.cell? ⟨g, 2, none⟩ = some (.int .i64 f.kept)
theorem C3.below {w w' : World} {g : Nat} {f : FM} (h : C3 w g f) (hb : Below w.heap.size w w') : C3 w' g f :=
  ⟨(hb.cell (p := ⟨g, 0, none⟩) (cell_lt h.1)).trans h.1, (hb.cell (p := ⟨g, 1, none⟩) (cell_lt h.2.1)).trans h.2.1, (hb.cell (p := ⟨g, 2, none⟩) (cell_lt h.2.2)).trans h.2.2⟩
theorem C3.alloc {w : World} {g : Nat} {f : FM} (h : C3 w g f) (o : Obj) : C3 (w.alloc o) g f := h.below ((Below.refl _ _).alloc (Nat.le_refl _) o)
theorem C3.grown {w w' : World} {g : Nat} {f : FM} {row : Option Nat} (h : C3 w g f) (hg : w.grownBy w' row) (hr : row ≠ some g) : C3 w' g f :=
  ⟨(cell_grown hg ⟨g, 0, none⟩ (cell_lt h.1) hr).trans h.1, (cell_grown hg ⟨g, 1, none⟩ (cell_lt h.2.1) hr).trans h.2.1, (cell_grown hg ⟨g, 2, none⟩ (cell_lt h.2.2) hr).trans h.2.2⟩
theorem C3.new (w : World) (f : FM) (t : TypeId) : C3 (w.alloc (.cells #[.string f.name, .string f.text, .int .i64 f.kept] t)) w.heap.size f := by
  have h := wcells_new w #[.string f.name, .string f.text, .int .i64 f.kept] t
  exact ⟨(h.2 0 _ rfl).1, (h.2 1 _ rfl).1, (h.2 2 _ rfl).1⟩
theorem take_snoc {α : Type} (fs : List α) (k : Nat) (h : k < fs.length) : fs.take (k + 1) = fs.take k ++ [fs[k]] := List.take_succ_eq_append_getElem h
set_option maxHeartbeats 4000000 in
theorem copyOf_any (a : Option Addr) (fs : List FM) (cap : Nat) (w : World) (hr : FRow w a fs) (hl : fs.length ≤ 1048576) (hs : ∀ f ∈ fs, f.name.size ≤ 281474976710656 ∧ f.text.size ≤ 281474976710656) :
    Calls Try.prog 19 #[.slice a fs.length cap] w fun e w' => MadeDisk fs w e w' := by
  obtain ⟨i0, hi, hz0, hz1, hz2⟩ := info_parts infoFile
  have HR : Hid (FRow w a fs) := hr
  have HS : Hid (∀ f ∈ fs, f.name.size ≤ 281474976710656 ∧ f.text.size ≤ 281474976710656) := hs
  have HY0 : Hid (WCells (w.alloc (.cells #[.slice none 0 0] 26)) w.heap.size [.slice none 0 0]) := wcells_new w #[.slice none 0 0] 26
  have HB0 : Hid (Below w.heap.size w (w.alloc (.cells #[.slice none 0 0] 26))) := (Below.refl _ _).alloc (Nat.le_refl _) _
  clear hr hs
  go_enter Try.func19, Try.ntmps19
  go_wp2_with (at_make; refine wpList_make_own _ rfl _ _ 24 rfl (w.heap.size + 1) 55 i0 _ 3 Try.underlying24 hi hz0 hz1 .i64 .i64 _ fs.length rfl rfl (by omega) ?b2 ?b3 ?b4 ?_)
  case b2 => rw [hz2]; omega
  case b3 => unfold maxLen; omega
  case b4 => simp
  intro wm hownm hgrm
  have hbm : Below w.heap.size w wm := HB0.out.grown hgrm (by simp) (fun j hj => by simp at hj)
  have hym : WCells wm w.heap.size [.slice none 0 0] := wc_grown HY0.out hgrm (by simp)
  have HYM : Shut (WCells wm w.heap.size [.slice none 0 0]) := ⟨hym⟩
  have HBM : Hid (Below w.heap.size w wm) := hbm
  have HWM : Hid (wm.ownsRow (w.heap.size + 1) 55 3 (.slice (some ⟨w.heap.size + 1, 0, none⟩) 0 fs.length) 0 []) := hownm
  clear hgrm hbm hym hownm
  go_wp2_with fail
  go_loopw [3, 11] (fun v i wr => ∃ (k : Nat), i = .int .i64 k ∧ k ≤ fs.length ∧ Shut (WCells wr w.heap.size [.slice none 0 0]) ∧ wr.ownsRow (w.heap.size + 1) 55 3 v k (fcs (fs.take k)) ∧ Below w.heap.size w wr) (fun _ i _ => fs.length - (intOf i).toNat)
  case atStart => exact ⟨0, rfl, Nat.zero_le _, HYM, by simpa [fcs] using HWM.out, HBM.out⟩
  case round =>
    clear HYM HBM HWM HY0 HB0
    obtain ⟨k, rfl, hk, hy, hown, hb⟩ := hrel
    have HB : Hid (Below w.heap.size w wr) := hb
    by_cases hlt : k < fs.length
    · obtain ⟨b, off, rfl, lb, hc⟩ := FRow.at HR.out (by omega)
      obtain ⟨d0, d1, d2⟩ := hc k hlt
      rw [← hb.cell (p := ⟨b, off + k * 3, none⟩) lb] at d0
      rw [← hb.cell (p := ⟨b, off + k * 3 + 1, none⟩) lb] at d1
      rw [← hb.cell (p := ⟨b, off + k * 3 + 2, none⟩) lb] at d2
      have hsz := HS.out fs[k] (List.getElem_mem hlt)
      have hstep : fcs (fs.take (k + 1)) = fcs (fs.take k) ++ [.string fs[k].name, .string fs[k].text, .int .i64 fs[k].kept] := by rw [take_snoc fs k hlt, fcs_snoc]
      obtain ⟨f, hfe⟩ : ∃ f, f = fs[k] := ⟨_, rfl⟩
      rw [← hfe] at d0 d1 d2 hsz hstep
      obtain ⟨sz0, sz1⟩ := hsz
      have HST : Hid (fcs (fs.take (k + 1)) = fcs (fs.take k) ++ [.string f.name, .string f.text, .int .i64 f.kept]) := hstep
      have k0 : (0 : Int) ≤ (k : Int) := by omega
      have k1 : (k : Int) < (fs.length : Int) := by omega
      have hws : w.heap.size < wr.heap.size := hy.out.1
      have nv : u3.ownBlock ≠ some wr.heap.size := fun e => by have := (hown.lt _ e).2; omega
      have HC := C3.new wr f 55
      have hc3 : Shut (C3 (wr.alloc (.cells #[.string f.name, .string f.text, .int .i64 f.kept] 55)) wr.heap.size f) := ⟨HC⟩
      clear hfe hc hb hstep HC
      go_wp2_with fail
      have tokA : True := trivial
      have tokB : True := trivial
      go_region_held3 (fun w' => w'.cell? ⟨wr.heap.size, 0, none⟩ = some (.string f.name) ∧ w'.cell? ⟨wr.heap.size, 1, none⟩ = some (.string f.text) ∧ w'.cell? ⟨wr.heap.size, 2, none⟩ = some (.int .i64 f.kept))
        (first | assumption | (exact hc3.out) | (exact C3.alloc (by assumption) _) | (exact C3.below (by assumption) hbB) | (exact C3.below (by assumption) hbA) | (exact C3.grown (by assumption) hgrow nv))
        (first
          | (go_at_call 24; have _t := tokA; refine (clone_any _ _ ?_).mono ?_; (first | exact sz0 | exact sz1); rintro e w6 ⟨rfl, hbA⟩; clear _t tokA)
          | (go_at_call 24; have _t := tokB; refine (clone_any _ _ ?_).mono ?_; (first | exact sz0 | exact sz1); rintro e w7 ⟨rfl, hbB⟩; clear _t tokB)
          | ((fail_if_success (have _t := tokB)); refine step_append_lies _ (by rfl) _ _ _ (by rfl) (w.heap.size + 1) 55 i0 _ 3 40 Try.underlying24 hi hz0 hz1 hz2 rfl (by omega) _ _ _ (by rfl) ((own_belowD (own_belowD ((hown.alloc _).drew) hbA) hbB).alloc _) ⟨w7.heap.size, 0, none⟩ 1 1 [.string f.name, .string f.text, .int .i64 f.kept] (by rfl) (by rfl) (World.news_of_block (cs := #[.string f.name, .string f.text, .int .i64 f.kept]) (t := 55) (fr := (0, 0)) (heap_alloc_new w7 _)) (by simp [Value.oneCell']) (by omega) (by unfold maxLen; omega) (by omega) (by have h1 := hbA.size; have h2 := hbB.size; simp at h1 h2 ⊢; omega) (w7.heap.size + 1) (by simp) ?_; intro gg cap1 w8 hown1 hgrow hat hlt'))
      all_goals go_wp2_with fail
      all_goals
        have hbx : Below w.heap.size w (w7.alloc (.cells #[.string f.name, .string f.text, .int .i64 f.kept] 55)) := ((((HB.out.alloc HB.out.size _).drew).trans (hbA.mono (by have := HB.out.size; simp; omega))).trans (hbB.mono (by have h1 := hbA.size; have := HB.out.size; simp at h1; omega))).alloc (by have h1 := hbA.size; have h2 := hbB.size; have := HB.out.size; simp at h1; omega) _
        have hbn : Below w.heap.size w w8 := hbx.grown hgrow hbx.size (fun j hj => by have := (hown.lt j hj).1; omega)
        have hyn : WCells w8 w.heap.size [.slice none 0 0] := wc_grown ((((WCells.grow (w := (wr.alloc (.cells #[.string f.name, .string f.text, .int .i64 f.kept] 55)).drew) (hy.out.alloc _) hbA).grow hbB).alloc _)) hgrow (fun e => by have := (hown.lt _ e).1; omega)
        refine ⟨⟨k + 1, by go_num, by omega, ⟨hyn⟩, ?_, hbn⟩, by simp [intOf]; omega⟩
        rw [HST.out]
        exact hown1
    · have e : k = fs.length := by omega
      subst e
      rw [List.take_length] at hown
      obtain ⟨yc, yf⟩ := hy.out.2 0 _ rfl
      clear hb
      obtain ⟨va, vcap, rfl⟩ := own_formD hown
      go_wp2_with fail
      show bodyPost Try.prog Try.f19 _ Exit.ret _ _
      refine bodyPost_ret (v := .agg #[.slice va fs.length vcap]) (by simp [results, Try.results19, go_sem, yc]) rfl ⟨_, rfl, ?_, HB.out.setCell (by simp) _⟩
      exact own_wider (own_other hown (show w.heap.size < w.heap.size + 1 by omega) _ rfl _ rfl) (by omega)
end Go.Proofs.Ytplcdcfhfaghiaa
/- ShA: The program's shelf: files behind pointers in a map by their names. What it holds, and the laws of its operations. -/
namespace Go.Proofs.Ytplcdcfhfaghiaa
set_option maxRecDepth 100000
open Go.RowKit Go.Maps

/-- How a pointer to a block reads. -/
def ptrElem : Value → Option (DataW Unit × List MemPlace)
  | .pointer (some ⟨g, 0, none⟩) => some (.lit (.int .i64 g), [])
  | .pointer none => some (.nil, [])
  | _ => none
theorem ptr_inv {v : Value} {g : Int} {ps : List MemPlace} (h : ptrElem v = some (.lit (.int .i64 g), ps)) : ∃ n : Nat, (n : Int) = g ∧ v = .pointer (some ⟨n, 0, none⟩) := by
  unfold ptrElem at h
  split at h
  · simp at h; exact ⟨_, h.1, rfl⟩
  · simp at h
  · cases h
theorem ptr_nil {v : Value} {ps : List MemPlace} (h : ptrElem v = some (.nil, ps)) : v = .pointer none := by
  unfold ptrElem at h
  split at h
  · simp at h
  · rfl
  · cases h
theorem lawK : Keyed Try.prog 9 := string_keyed Try.underlying9
/-- A name as a key. -/
abbrev kl (n : ByteArray) : Lit := .string n.data.toList
theorem kl_inj {m n : ByteArray} (h : kl m = kl n) : m = n := nm_inj (by simpa using h)
theorem kl_key (n : ByteArray) (h : n.size ≤ maxLen) : keyOf Try.prog 9 (.string n) = some (kl n) := Go.WideMaps.keyOf_string_mk Try.underlying9 h
theorem zeroPtr (w : World) : (zeroValue 72).run Try.prog w = .ok (.pointer none) w := by kernel_rfl
/-- What the shelf holds. -/
def Shelf (w : World) (B b : Nat) (fs : List FM) : Prop :=
  B ≤ b ∧ ∃ (D : DataW Unit) (G : ByteArray → Nat), w.ownsMap Try.prog 9 ptrElem b fs.length D ∧ Maps.size D = fs.length ∧
    (∀ f ∈ fs, (∀ z, D.atKey (kl f.name) z = .lit (.int .i64 (G f.name))) ∧ WCells w (G f.name) (fcells f) ∧ B ≤ G f.name ∧ G f.name ≠ b) ∧
    (∀ f ∈ fs, ∀ f' ∈ fs, G f.name = G f'.name → f.name = f'.name) ∧ ∀ n, (∀ f ∈ fs, f.name ≠ n) → Maps.has D (kl n) = false
theorem own_tight {w : World} {P : Program} {k : TypeId} {R : Value → Option (DataW Unit × List MemPlace)} {b n m : Nat} {D : DataW Unit} (h : w.ownsMap P k R b n D) (hm : Maps.size D = m) : w.ownsMap P k R b m D := by
  obtain ⟨es, clock, hb, F, hs, hD⟩ := h
  refine ⟨es, clock, hb, F, ?_, hD⟩
  have : Maps.size D = es.size := by rw [hD]; simp [Maps.size, length_sorted]
  omega
section
variable {P : Program} (w : World) {ops : Array Oper} {rest : List Oper} {o : Oper} {a : Act} {Q : Exit → Act → World → Prop}
/-- 'f, there := s[name]': there. -/
theorem wpList_there (hg : o.guard = none) (m x : Operand) (t : TypeId) (hop : o.op = Op.lookup t m x true) (k e : TypeId) (K : Keyed P k) (ht : P.underlying t = some (.map k e)) (hz : (zeroValue e).run P w = .ok (.pointer none) w) (b n : Nat) (D : DataW Unit)
    (hm : a.eval m = .map (some b)) (hown : w.ownsMap P k ptrElem b n D) (key : Value) (l : Lit) (hx : a.eval x = key) (hkey : keyOf P k key = some l) (g : Nat) (hat : ∀ z, D.atKey l z = .lit (.int .i64 g))
    (hK : wpList P ops Q rest (a.put o.dst (.tuple #[.pointer (some ⟨g, 0, none⟩), .bool true])) w) : wpList P ops Q (o :: rest) a w :=
  wpList_lookup_own_ok w hg m x t hop k e K ht ptrElem hz .nil [] rfl b n D hm hown key l hx hkey (fun v ps hv => by
    rw [hat] at hv
    obtain ⟨n', e, rfl⟩ := ptr_inv hv
    obtain rfl : n' = g := by omega
    rw [Maps.has_true_of_atKey hat]
    exact hK)
/-- .. not there. -/
theorem wpList_absent (hg : o.guard = none) (m x : Operand) (t : TypeId) (hop : o.op = Op.lookup t m x true) (k e : TypeId) (K : Keyed P k) (ht : P.underlying t = some (.map k e)) (hz : (zeroValue e).run P w = .ok (.pointer none) w) (b n : Nat) (D : DataW Unit)
    (hm : a.eval m = .map (some b)) (hown : w.ownsMap P k ptrElem b n D) (key : Value) (l : Lit) (hx : a.eval x = key) (hkey : keyOf P k key = some l) (hno : Maps.has D l = false)
    (hK : wpList P ops Q rest (a.put o.dst (.tuple #[.pointer none, .bool false])) w) : wpList P ops Q (o :: rest) a w :=
  wpList_lookup_own_ok w hg m x t hop k e K ht ptrElem hz .nil [] rfl b n D hm hown key l hx hkey (fun v ps hv => by
    rw [Maps.atKey_of_not_has hno] at hv
    rw [ptr_nil hv, hno]
    exact hK)
/-- 's[name]' alone. -/
theorem wpList_at (hg : o.guard = none) (m x : Operand) (t : TypeId) (hop : o.op = Op.lookup t m x false) (k e : TypeId) (K : Keyed P k) (ht : P.underlying t = some (.map k e)) (hz : (zeroValue e).run P w = .ok (.pointer none) w) (b n : Nat) (D : DataW Unit)
    (hm : a.eval m = .map (some b)) (hown : w.ownsMap P k ptrElem b n D) (key : Value) (l : Lit) (hx : a.eval x = key) (hkey : keyOf P k key = some l) (g : Nat) (hat : ∀ z, D.atKey l z = .lit (.int .i64 g))
    (hK : wpList P ops Q rest (a.put o.dst (.pointer (some ⟨g, 0, none⟩))) w) : wpList P ops Q (o :: rest) a w := by
  refine wpList_plain hg fun K' hK' => ?_
  obtain ⟨v, ps, hrun, hv⟩ := hown.lookup K ht hz (zd := .nil) (zp := []) rfl hkey
  rw [hat] at hv
  obtain ⟨n', e, rfl⟩ := ptr_inv hv
  obtain rfl : n' = g := by omega
  unfold Oper.wp
  simp [execOp, hop, hm, hx, hrun, Result.andThen]
  exact hK' _ _ hK
end
/-- A file is put. -/
theorem Shelf.put {w' : World} {B b m g : Nat} {fs : List FM} {f : FM} {D D' : DataW Unit} {G : ByteArray → Nat} (hB : B ≤ b) (hown : w'.ownsMap Try.prog 9 ptrElem b m D') (hsz : Maps.size D' = (putF f fs).length)
    (hin : ∀ f' ∈ fs, (∀ z, D.atKey (kl f'.name) z = .lit (.int .i64 (G f'.name))) ∧ B ≤ G f'.name ∧ G f'.name ≠ b) (hinj : ∀ f1 ∈ fs, ∀ f2 ∈ fs, G f1.name = G f2.name → f1.name = f2.name) (hno : ∀ n, (∀ f ∈ fs, f.name ≠ n) → Maps.has D (kl n) = false)
    (hoth : ∀ l, l ≠ kl f.name → (∀ z, D'.atKey l z = D.atKey l z) ∧ Maps.has D' l = Maps.has D l) (hhere : ∀ z, D'.atKey (kl f.name) z = .lit (.int .i64 g)) (hc : WCells w' g (fcells f)) (hcs : ∀ f' ∈ fs, f'.name ≠ f.name → WCells w' (G f'.name) (fcells f')) (hg : ∀ f' ∈ fs, f'.name ≠ f.name → G f'.name ≠ g)
    (hBg : B ≤ g) (hgb : g ≠ b) : Shelf w' B b (putF f fs) := by
  refine ⟨hB, D', fun n => if n = f.name then g else G n, own_tight hown hsz, hsz, fun f' hf' => ?_, fun f1 h1 f2 h2 e => ?_, fun n hn => ?_⟩
  · rcases mem_putF.1 hf' with rfl | ⟨hm, hne⟩
    · simp only [if_pos]
      exact ⟨hhere, hc, hBg, hgb⟩
    · simp only [if_neg hne]
      obtain ⟨q1, q2, q3⟩ := hin f' hm
      exact ⟨fun z => by rw [(hoth _ (fun e => hne (kl_inj e))).1 z]; exact q1 z, hcs f' hm hne, q2, q3⟩
  · rcases mem_putF.1 h1 with rfl | ⟨m1, n1⟩ <;> rcases mem_putF.1 h2 with rfl | ⟨m2, n2⟩
    · rfl
    · simp only [if_pos, if_neg n2] at e
      exact absurd e.symm (hg f2 m2 n2)
    · simp only [if_pos, if_neg n1] at e
      exact absurd e (hg f1 m1 n1)
    · simp only [if_neg n1, if_neg n2] at e
      exact hinj f1 m1 f2 m2 e
  · have hne : n ≠ f.name := fun e => hn f (mem_putF.2 (.inl rfl)) e.symm
    rw [(hoth _ (fun e => hne (kl_inj e))).2]
    exact hno n fun f' hf' e => hn f' (mem_putF.2 (.inr ⟨hf', fun e' => hne (e ▸ e')⟩)) e
theorem Shelf.keep {w w' : World} {B b : Nat} {fs : List FM} (h : Shelf w B b fs) (hb : Below w.heap.size w w') : Shelf w' B b fs := by
  obtain ⟨hB, D, G, hown, hsz, hin, hinj, hno⟩ := h
  refine ⟨hB, D, G, hown.kept (row := none) ⟨hb.os, hb.tape, hb.output, hb.size, fun k hk _ => hb.block k hk⟩ (by simp), hsz, fun f hf => ?_, hinj, hno⟩
  obtain ⟨q1, q2, q3, q4⟩ := hin f hf
  exact ⟨q1, q2.grow hb, q3, q4⟩
theorem Shelf.lt {w : World} {B b : Nat} {fs : List FM} (h : Shelf w B b fs) : b < w.heap.size := by
  obtain ⟨hB, D, G, hown, _⟩ := h
  exact hown.lt
end Go.Proofs.Ytplcdcfhfaghiaa
/- ShB: The shelf's operations: made of a disk; a file's text grows, is kept, is moved, is dropped; an act. -/
namespace Go.Proofs.Ytplcdcfhfaghiaa
set_option maxRecDepth 100000
open Go.RowKit Go.Maps
attribute [local go_sem ↓] Go.wp_at_zero Go.wp_at_succ

/-- What an operation on the shelf answers. -/
def ShPost (r : Option (List FM)) (fs : List FM) (B b : Nat) (w : World) (e : Ending) (w' : World) : Prop := e = .returned (.bool r.isSome) ∧ Shelf w' B b (r.getD fs) ∧ Below B w w'
theorem below_turned {B b : Nat} {w0 w w' : World} (h : Below B w0 w) (ht : w.mapTurned w' b) (hb : B ≤ b) (hs : B ≤ w.heap.size) : Below B w0 w' := h.grown ht.grown hs (fun j hj => by simp at hj; omega)
theorem isKey_kl (n : ByteArray) (h : n.size ≤ maxLen) : WideAt.IsKeyLit (kl n) := lawK.key (kl_key n h)
set_option maxHeartbeats 1000000 in
set_option maxRecDepth 100000 in
theorem drop_any (b B : Nat) (fs : List FM) (n : ByteArray) (w : World) (hsh : Shelf w B b fs) (hok : DOk fs) (hn : n.size ≤ 9223372036854775807) :
    Calls Try.prog 42 #[.map (some b), .string n] w fun e w' => ShPost ((fileOf fs n).map fun _ => withoutF n fs) fs B b w e w' := by
  have hkey := kl_key n hn
  obtain ⟨hB, D, G, hown, hsz, hin, hinj, hno⟩ := hsh
  have hbl := hown.lt
  cases hf : fileOf fs n with
  | none =>
    have hnone := fileOf_none hf
    have hab := hno n hnone
    have HS : Hid (∀ w', w'.ownsMap Try.prog 9 ptrElem b fs.length (D.del (kl n)) → w.mapTurned w' b → ShPost none fs B b w (.returned (.bool false)) w') := by
      intro w' ho ht
      refine ⟨rfl, ⟨hB, D, G, by rw [Maps.del_of_not_has hab] at ho; exact ho, hsz, fun f hf => ?_, hinj, hno⟩, below_turned (Below.refl _ _) ht hB (by omega)⟩
      obtain ⟨q1, q2, q3, q4⟩ := hin f hf
      exact ⟨q1, wc_grown q2 ht.grown (fun e => q4 (by simpa using e.symm)), q3, q4⟩
    clear hin hinj hno hok hnone
    go_enter Try.func42, Try.ntmps42
    go_wp2_with (first
      | (at_lookup; refine wpList_absent _ rfl _ _ 50 rfl 9 72 lawK Try.underlying50 (zeroPtr _) b fs.length D rfl hown _ _ rfl hkey hab ?_)
      | (at_delete; refine wpList_delete_own _ rfl _ _ 50 9 rfl 72 lawK Try.underlying50 ptrElem b fs.length D rfl hown _ _ rfl hkey ?_; intro w1 hown1 hturn1))
    go_ret
    exact HS.out _ hown1 hturn1
  | some f =>
    obtain ⟨hm, rfl⟩ := fileOf_some hf
    obtain ⟨q1, q2, q3, q4⟩ := hin f hm
    have hhas := Maps.has_true_of_atKey q1
    have htidy := hown.tidy lawK
    have HS : Hid (∀ w', w'.ownsMap Try.prog 9 ptrElem b fs.length (D.del (kl f.name)) → w.mapTurned w' b → ShPost (some (withoutF f.name fs)) fs B b w (.returned (.bool true)) w') := by
      intro w' ho ht
      have hs1 : Maps.size (D.del (kl f.name)) = (withoutF f.name fs).length := by
        have h1 := Maps.size_del (k := kl f.name) htidy
        rw [hhas] at h1
        have h2 := without_some hok.up hm
        simp at h1
        omega
      refine ⟨rfl, ⟨hB, D.del (kl f.name), G, own_tight ho hs1, hs1, fun f' hf' => ?_, fun f1 h1 f2 h2 e => hinj f1 (mem_withoutF.1 h1).1 f2 (mem_withoutF.1 h2).1 e, fun n hn => ?_⟩, below_turned (Below.refl _ _) ht hB (by omega)⟩
      · obtain ⟨hm', hne⟩ := mem_withoutF.1 hf'
        obtain ⟨p1, p2, p3, p4⟩ := hin f' hm'
        exact ⟨fun z => by rw [Maps.atKey_del_other (fun e => hne (kl_inj e))]; exact p1 z, wc_grown p2 ht.grown (fun e => p4 (by simpa using e.symm)), p3, p4⟩
      · by_cases e : n = f.name
        · subst e; exact Maps.has_del_same
        · rw [Maps.has_del_other (fun e' => e (kl_inj e'))]
          exact hno n fun f' hf' e' => hn f' (mem_withoutF.2 ⟨hf', fun e2 => e (e'.symm.trans e2)⟩) e'
    generalize G f.name = g at *
    clear hin hinj hno hok hhas htidy hsz
    go_enter Try.func42, Try.ntmps42
    go_wp2_with (first
      | (at_lookup; refine wpList_there _ rfl _ _ 50 rfl 9 72 lawK Try.underlying50 (zeroPtr _) b fs.length D rfl hown _ _ rfl hkey g q1 ?_)
      | (at_delete; refine wpList_delete_own _ rfl _ _ 50 9 rfl 72 lawK Try.underlying50 ptrElem b fs.length D rfl hown _ _ rfl hkey ?_; intro w1 hown1 hturn1))
    go_ret
    exact HS.out _ hown1 hturn1
theorem fc_text (f : FM) (t : ByteArray) : (fcells f).set 1 (.string t) = fcells ⟨f.name, t, f.kept⟩ := rfl
theorem fc_kept (f : FM) (k : Int) : (fcells f).set 2 (.int .i64 k) = fcells ⟨f.name, f.text, k⟩ := rfl
theorem fc_name (f : FM) (n : ByteArray) : (fcells f).set 0 (.string n) = fcells ⟨n, f.text, f.kept⟩ := rfl
/-- A file of the shelf is written: its name stays. -/
theorem Shelf.write {w : World} {B b : Nat} {fs : List FM} {D : DataW Unit} {G : ByteArray → Nat} (hok : DOk fs) (hB : B ≤ b) (hown : w.ownsMap Try.prog 9 ptrElem b fs.length D) (hsz : Maps.size D = fs.length)
    (hin : ∀ f ∈ fs, (∀ z, D.atKey (kl f.name) z = .lit (.int .i64 (G f.name))) ∧ WCells w (G f.name) (fcells f) ∧ B ≤ G f.name ∧ G f.name ≠ b)
    (hinj : ∀ f ∈ fs, ∀ f' ∈ fs, G f.name = G f'.name → f.name = f'.name) (hno : ∀ n, (∀ f ∈ fs, f.name ≠ n) → Maps.has D (kl n) = false) {f : FM} (hm : f ∈ fs) (i : Nat) (v : Value) (f' : FM) (hn : f'.name = f.name) (hi : i < 3) (hf' : (fcells f).set i v = fcells f') :
    Shelf (w.setCell ⟨G f.name, i, none⟩ v) B b (putF f' fs) := by
  obtain ⟨q1, q2, q3, q4⟩ := hin f hm
  refine Shelf.put (D := D) (G := G) (g := G f.name) hB (hown.setCell (a := ⟨G f.name, i, none⟩) (fun e => q4 e.symm) v) (by rw [len_put_there hok.up hm f' hn]; exact hsz) (fun f2 h2 => ⟨(hin f2 h2).1, (hin f2 h2).2.2⟩) hinj hno (fun l _ => ⟨fun _ => rfl, rfl⟩) (by rw [hn]; exact q1) ?_ (fun f2 h2 hne => ?_) (fun f2 h2 hne e => hne (by rw [hn]; exact hinj f2 h2 f hm e)) q3 q4
  · have := q2.set i v (by rw [fcells_len]; exact hi)
    rwa [hf'] at this
  · exact (hin f2 h2).2.1.other _ _ (fun e => hne (by rw [hn]; exact hinj f2 h2 f hm e))
set_option maxHeartbeats 1000000 in
set_option maxRecDepth 100000 in
theorem keep_any (b B : Nat) (fs : List FM) (n : ByteArray) (w : World) (hsh : Shelf w B b fs) (hok : DOk fs) (hn : n.size ≤ 9223372036854775807) :
    Calls Try.prog 40 #[.map (some b), .string n] w fun e w' => ShPost ((fileOf fs n).map fun f => putF ⟨n, f.text, (f.text.size : Int)⟩ fs) fs B b w e w' := by
  have hkey := kl_key n hn
  have HSH : Hid (Shelf w B b fs) := hsh
  obtain ⟨hB, D, G, hown, hsz, hin, hinj, hno⟩ := hsh
  cases hf : fileOf fs n with
  | none =>
    have hab := hno n (fileOf_none hf)
    clear hin hinj hno hok
    go_enter Try.func40, Try.ntmps40
    go_wp2_with (at_lookup; refine wpList_absent _ rfl _ _ 50 rfl 9 72 lawK Try.underlying50 (zeroPtr _) b fs.length D rfl hown _ _ rfl hkey hab ?_)
    go_ret
    exact ⟨rfl, HSH.out, Below.refl _ _⟩
  | some f =>
    obtain ⟨hm, rfl⟩ := fileOf_some hf
    obtain ⟨q1, q2, q3, q4⟩ := hin f hm
    have HS : Hid (ShPost (some (putF ⟨f.name, f.text, (f.text.size : Int)⟩ fs)) fs B b w (.returned (.bool true)) (w.setCell ⟨G f.name, 2, none⟩ (.int .i64 (f.text.size : Int)))) :=
      ⟨rfl, Shelf.write hok hB hown hsz hin hinj hno hm 2 _ ⟨f.name, f.text, (f.text.size : Int)⟩ rfl (by decide) rfl, (Below.refl _ _).setCell q3 _⟩
    obtain ⟨c1, _⟩ := q2.2 1 _ rfl
    obtain ⟨c2, z2⟩ := q2.2 2 _ rfl
    generalize G f.name = g at *
    clear hin hinj hno hok hsz q2
    go_enter Try.func40, Try.ntmps40
    go_wp2_with (at_lookup; refine wpList_there _ rfl _ _ 50 rfl 9 72 lawK Try.underlying50 (zeroPtr _) b fs.length D rfl hown _ _ rfl hkey g q1 ?_)
    go_ret
    exact HS.out
set_option maxHeartbeats 2000000 in
set_option maxRecDepth 100000 in
theorem shAdd_any (b B : Nat) (fs : List FM) (n t : ByteArray) (w : World) (hsh : Shelf w B b fs) (hok : DOk fs) (hn : n.size ≤ 9223372036854775807) (ht : t.size ≤ 1048576) (hBw : B ≤ w.heap.size) :
    Calls Try.prog 39 #[.map (some b), .string n, .string t] w fun e w' => ShPost (doA fs ⟨1, n, t, ⟨#[]⟩⟩) fs B b w e w' := by
  have hkey := kl_key n hn
  have hik := isKey_kl n hn
  have HSH : Hid (Shelf w B b fs) := hsh
  have h30 := hok.1
  obtain ⟨hB, D, G, hown, hsz, hin, hinj, hno⟩ := hsh
  have hbl := hown.lt
  have htidy := hown.tidy lawK
  cases hf : fileOf fs n with
  | none =>
    have hnone := fileOf_none hf
    have hab := hno n hnone
    rw [doA_add_new hok hf]
    have HU : Hid (∀ w1 w2 : World, Below w.heap.size w w1 → WCells w1 w.heap.size (fcells ⟨n, t, 0⟩) → w2.ownsMap Try.prog 9 ptrElem b (fs.length + 1) (D.put (kl n) (.lit (.int .i64 w.heap.size))) → w1.mapTurned w2 b → ShPost (some (putF ⟨n, t, 0⟩ fs)) fs B b w (.returned (.bool true)) w2) := by
      intro w1 w2 hb1 hc1 ho ht
      have hcell : ∀ g X, g ≠ b → WCells w1 g X → WCells w2 g X := fun g X hg hc => wc_grown hc ht.grown (fun e => hg (by simpa using e.symm))
      refine ⟨rfl, Shelf.put (D := D) (G := G) (g := w.heap.size) hB ho ?_ (fun f2 h2 => ⟨(hin f2 h2).1, (hin f2 h2).2.2⟩) hinj hno (fun l hl => ⟨fun z => Maps.atKey_put_other hl _ z, Maps.has_put_other hl _⟩) (fun z => Maps.atKey_put_same hown.isMap hik _ z) (hcell _ _ (by omega) hc1) (fun f2 h2 hne => ?_) (fun f2 h2 hne => ?_) hBw (by omega), below_turned (hb1.mono hBw) ht hB (by have := hb1.size; omega)⟩
      · rw [Maps.size_put htidy, hab, put_len hok.up, without_none hnone, hsz]; rfl
      · exact hcell _ _ (hin f2 h2).2.2.2 ((hin f2 h2).2.1.grow hb1)
      · have := (hin f2 h2).2.1.1; omega
    clear hin hinj hno htidy hf hnone
    by_cases h1 : fs.length = 30
    · rw [if_neg (fun h => by omega)]
      have hl30 : ((fs.length : Nat) : Int) = 30 := by omega
      clear HU
      go_enter Try.func39, Try.ntmps39
      go_wp2_with (first | (at_lookup; refine wpList_absent _ rfl _ _ 50 rfl 9 72 lawK Try.underlying50 (zeroPtr _) b fs.length D rfl hown _ _ rfl hkey hab ?_) | (at_len; refine wpList_len_own _ rfl _ 50 rfl 9 72 Try.underlying50 ptrElem b fs.length D rfl hown ?_))
      go_ret
      exact ⟨rfl, HSH.out, Below.refl _ _⟩
    · have hl30 : ¬ ((fs.length : Nat) : Int) = 30 := by omega
      by_cases h2 : decide (1 ≤ n.size ∧ n.size ≤ 8) = true
      · have h2' := of_decide_eq_true h2
        by_cases h3 : t.size ≤ 20000
        · rw [if_pos ⟨h2', by omega, h3⟩]
          have h3' : ¬ (20000 : Int) < (t.size : Int) := by omega
          have hmx : fs.length < maxLen := by unfold maxLen; omega
          go_enter Try.func39, Try.ntmps39
          go_wp2_with (first | (at_lookup; refine wpList_absent _ rfl _ _ 50 rfl 9 72 lawK Try.underlying50 (zeroPtr _) b fs.length D rfl hown _ _ rfl hkey hab ?_) | (at_len; refine wpList_len_own _ rfl _ 50 rfl 9 72 Try.underlying50 ptrElem b fs.length D rfl hown ?_))
          refine (fileNameOk_is n _ true h2).mono ?_
          intro e w1 hw1
          obtain ⟨rfl, hww⟩ := hw1
          rw [hww]
          clear hww w1
          have hown1 := hown.alloc (.cells #[.string n, .string (⟨#[]⟩ ++ t), .int .i64 0] 55)
          have HB : Hid (Below w.heap.size w (w.alloc (.cells #[.string n, .string (⟨#[]⟩ ++ t), .int .i64 0] 55))) := (Below.refl _ _).alloc (Nat.le_refl _) _
          have HC : Hid (WCells (w.alloc (.cells #[.string n, .string (⟨#[]⟩ ++ t), .int .i64 0] 55)) w.heap.size (fcells ⟨n, t, 0⟩)) := by
            have := wcells_new w #[.string n, .string (⟨#[]⟩ ++ t), .int .i64 0] 55
            rw [empty_app] at this ⊢
            exact this
          go_wp2_with (at_mapUpdate; refine wpList_mapUpdate_in _ rfl _ _ _ 50 rfl 9 72 lawK Try.underlying50 ptrElem b fs.length D rfl hown1 hmx _ _ _ rfl rfl hkey (.lit (.int .i64 w.heap.size)) [] rfl ?_; intro w2 hown2 hturn2)
          go_ret
          exact HU.out _ _ HB.out HC.out hown2 hturn2
        · rw [if_neg (fun h => h3 h.2.2)]
          have h3' : (20000 : Int) < (t.size : Int) := by omega
          clear HU
          have HB : Hid (Below w.heap.size w (w.alloc (.cells #[.string n, .string ⟨#[]⟩, .int .i64 0] 55))) := (Below.refl _ _).alloc (Nat.le_refl _) _
          go_enter Try.func39, Try.ntmps39
          go_wp2_with (first | (at_lookup; refine wpList_absent _ rfl _ _ 50 rfl 9 72 lawK Try.underlying50 (zeroPtr _) b fs.length D rfl hown _ _ rfl hkey hab ?_) | (at_len; refine wpList_len_own _ rfl _ 50 rfl 9 72 Try.underlying50 ptrElem b fs.length D rfl hown ?_))
          refine (fileNameOk_is n _ true h2).mono ?_
          rintro e w1 ⟨rfl, rfl⟩
          go_wp2_with fail
          go_ret
          exact ⟨rfl, HSH.out.keep HB.out, HB.out.mono hBw⟩
      · have h2' : decide (1 ≤ n.size ∧ n.size ≤ 8) = false := by simpa using h2
        rw [if_neg (fun h => of_decide_eq_false h2' h.1)]
        clear HU
        go_enter Try.func39, Try.ntmps39
        go_wp2_with (first | (at_lookup; refine wpList_absent _ rfl _ _ 50 rfl 9 72 lawK Try.underlying50 (zeroPtr _) b fs.length D rfl hown _ _ rfl hkey hab ?_) | (at_len; refine wpList_len_own _ rfl _ 50 rfl 9 72 Try.underlying50 ptrElem b fs.length D rfl hown ?_))
        refine (fileNameOk_is n _ false h2').mono ?_
        rintro e w1 ⟨rfl, rfl⟩
        go_wp2_with fail
        go_ret
        exact ⟨rfl, HSH.out, Below.refl _ _⟩
  | some f =>
    rw [doA_add_there hok hf]
    obtain ⟨hm, rfl⟩ := fileOf_some hf
    obtain ⟨q1, q2, q3, q4⟩ := hin f hm
    have hfs := (hok.ok f hm).2.1
    have hhas := Maps.has_true_of_atKey q1
    have HU : Hid (∀ w2 : World, w2.ownsMap Try.prog 9 ptrElem b (fs.length + 1) (D.put (kl f.name) (.lit (.int .i64 (G f.name)))) → (w.setCell ⟨G f.name, 1, none⟩ (.string (f.text ++ t))).mapTurned w2 b → ShPost (some (putF ⟨f.name, f.text ++ t, f.kept⟩ fs)) fs B b w (.returned (.bool true)) w2) := by
      intro w2 ho ht
      have hcell : ∀ g X, g ≠ b → WCells (w.setCell ⟨G f.name, 1, none⟩ (.string (f.text ++ t))) g X → WCells w2 g X := fun g X hg hc => wc_grown hc ht.grown (fun e => hg (by simpa using e.symm))
      have hnew : WCells (w.setCell ⟨G f.name, 1, none⟩ (.string (f.text ++ t))) (G f.name) (fcells ⟨f.name, f.text ++ t, f.kept⟩) := q2.set 1 (.string (f.text ++ t)) (by rw [fcells_len]; decide)
      refine ⟨rfl, Shelf.put (D := D) (G := G) (g := G f.name) hB ho ?_ (fun f2 h2 => ⟨(hin f2 h2).1, (hin f2 h2).2.2⟩) hinj hno (fun l hl => ⟨fun z => Maps.atKey_put_other hl _ z, Maps.has_put_other hl _⟩) (fun z => Maps.atKey_put_same hown.isMap hik _ z) (hcell _ _ q4 hnew) (fun f2 h2 hne => ?_) (fun f2 h2 hne e => hne (hinj f2 h2 f hm e)) q3 q4, below_turned ((Below.refl _ _).setCell q3 _) ht hB (by simpa [World.setCell] using hBw)⟩
      · rw [Maps.size_put htidy, hhas, len_put_there hok.up hm ⟨f.name, f.text ++ t, f.kept⟩ rfl, hsz]; rfl
      · exact hcell _ _ (hin f2 h2).2.2.2 ((hin f2 h2).2.1.other _ _ (fun e => hne (hinj f2 h2 f hm e)))
    obtain ⟨c1, z1⟩ := q2.2 1 _ rfl
    have hown1 := hown.setCell (a := ⟨G f.name, 1, none⟩) (fun e => q4 e.symm) (.string (f.text ++ t))
    generalize G f.name = g at *
    clear hin hinj hno htidy hf hok q2 hsz hhas
    have hmx : fs.length < maxLen := by unfold maxLen; omega
    by_cases h3 : f.text.size + t.size ≤ 20000
    · rw [if_pos h3]
      have h3' : ¬ (20000 : Int) - (f.text.size : Int) < (t.size : Int) := by omega
      clear HSH h3
      go_enter Try.func39, Try.ntmps39
      go_wp2_with (first | (at_lookup; refine wpList_there _ rfl _ _ 50 rfl 9 72 lawK Try.underlying50 (zeroPtr _) b fs.length D rfl hown _ _ rfl hkey g q1 ?_) | (at_mapUpdate; refine wpList_mapUpdate_in _ rfl _ _ _ 50 rfl 9 72 lawK Try.underlying50 ptrElem b fs.length D rfl hown1 hmx _ _ _ rfl rfl hkey (.lit (.int .i64 g)) [] rfl ?_; intro w2 hown2 hturn2))
      go_ret
      exact HU.out _ hown2 hturn2
    · rw [if_neg h3]
      have h3' : (20000 : Int) - (f.text.size : Int) < (t.size : Int) := by omega
      clear HU h3
      go_enter Try.func39, Try.ntmps39
      go_wp2_with (at_lookup; refine wpList_there _ rfl _ _ 50 rfl 9 72 lawK Try.underlying50 (zeroPtr _) b fs.length D rfl hown _ _ rfl hkey g q1 ?_)
      go_ret
      exact ⟨rfl, HSH.out, Below.refl _ _⟩
end Go.Proofs.Ytplcdcfhfaghiaa
/- ImE: The program's own walk that tells whether all of a disk is kept. -/
namespace Go.Proofs.Ytplcdcfhfaghiaa
set_option maxRecDepth 100000
open Go.RowKit
attribute [local go_sem ↓] Go.wp_at_zero Go.wp_at_succ

theorem allKept_any (f : FM) (w : World) : Calls Try.prog 52 #[fv f] w fun e w' => e = .returned (.bool (decide (f.kept = (f.text.size : Int)))) ∧ Below w.heap.size w w' := by
  by_cases h : f.kept = (f.text.size : Int)
  · have hb : Below w.heap.size w (w.alloc (.cells #[.string f.name, .string f.text, .int .i64 f.kept] 55)) := (Below.refl _ _).alloc (Nat.le_refl _) _
    have HB : Hid (Below w.heap.size w (w.alloc (.cells #[.string f.name, .string f.text, .int .i64 f.kept] 55))) := hb
    have e : decide (f.kept = (f.text.size : Int)) = true := decide_eq_true h
    rw [e]
    have he : (f.kept == (f.text.size : Int)) = true := by simpa using h
    clear hb e h
    go_enter Try.func52, Try.ntmps52
    go_wp2_with fail
    go_ret
    exact ⟨rfl, HB.out⟩
  · have hb : Below w.heap.size w (w.alloc (.cells #[.string f.name, .string f.text, .int .i64 f.kept] 55)) := (Below.refl _ _).alloc (Nat.le_refl _) _
    have HB : Hid (Below w.heap.size w (w.alloc (.cells #[.string f.name, .string f.text, .int .i64 f.kept] 55))) := hb
    have e : decide (f.kept = (f.text.size : Int)) = false := decide_eq_false h
    rw [e]
    have he : (f.kept == (f.text.size : Int)) = false := by simpa using h
    clear hb e h
    go_enter Try.func52, Try.ntmps52
    go_wp2_with fail
    go_ret
    exact ⟨rfl, HB.out⟩
end Go.Proofs.Ytplcdcfhfaghiaa
