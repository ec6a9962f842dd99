/- Texts of ours, laid one behind the other: LtE, LtF, GrwC, GrwE, GrwD, GrwF. -/
import Derived.Test.YtcnjjbgilpgceaaPl6
import Derived.Shelf.Spec.SlicesInsert
import Derived.Lib.AppendZerosOnto
import Derived.Laws.NewBlocks
/- LtE: The library's slices.IndexFunc and DeleteFunc over leases; the program's own DropLease. -/
namespace Go.Proofs.Ytcnjjbgilpgceaa
set_option maxRecDepth 100000
open Go.RowKit BigFrame
attribute [local go_sem ↓] Go.wp_at_zero Go.wp_at_succ

/-- The place of the first lease that a test takes, -1 without one. -/
def idxL (p : LsM → Bool) (L : List LsM) : Int := match L.findIdx? p with
  | some i => (i : Int)
  | none => -1
set_option maxRecDepth 100000 in
theorem test_path (r : LsM) (pb : Nat) (p : ByteArray) (w : World) (h : w.cell? ⟨pb, 0, none⟩ = some (.string p)) (hl : pb < w.heap.size) : Calls Try.prog 63 #[lsv r, .pointer (some ⟨pb, 0, none⟩)] w fun e w' => e = .returned (.bool (r.path.toList == p.toList)) ∧ Below w.heap.size w w' := by
  obtain ⟨R, hR⟩ : ∃ R, R = (r.path.toList == p.toList) := ⟨_, rfl⟩
  rw [← hR]
  go_enter Try.func63, Try.ntmps63
  go_wp2_with fail
  go_ret
  exact ⟨by simp [*], (Below.refl _ _).alloc (Nat.le_refl _) _⟩
set_option maxRecDepth 100000 in
set_option maxHeartbeats 1000000 in
theorem indexLease {w : World} {a : Option Addr} {n cap : Nat} {L : List LsM} (p : LsM → Bool) (cv : Value) (hr : LsRow w a L) (hn : n = L.length) (hl : n ≤ 3000000)
    (HC : ∀ W, Below w.heap.size w W → ∀ r ∈ L, Calls Try.prog 63 #[lsv r, cv] W fun e w' => e = .returned (.bool (p r)) ∧ Below W.heap.size W w') :
    Calls Try.prog 75 #[.slice a n cap, .func (.func 63) #[] #[cv]] w fun e w' => e = .returned (.int .i64 (idxL p L)) ∧ Below w.heap.size w w' := by
  obtain ⟨R, hR⟩ : ∃ R, R = idxL p L := ⟨_, rfl⟩
  rw [← hR]
  have HQ := Shut.mk hR
  have HR := Shut.mk hr
  have HCC := Shut.mk HC
  have HN := Shut.mk hn
  clear hR hr HC hn
  go_enter Try.func75, Try.ntmps75
  go_wp2_with fail
  go_loopw [8] (fun iv wr => ∃ k : Nat, iv = .int .i64 k ∧ k ≤ n ∧ Shut (∀ j (hj : j < L.length), j < k → p L[j] = false) ∧ Shut (Below w.heap.size w wr)) (fun iv _ => n - (intOf iv).toNat)
  case atStart => exact ⟨0, rfl, Nat.zero_le _, ⟨fun _ _ h => absurd h (Nat.not_lt_zero _)⟩, ⟨Below.refl _ _⟩⟩
  case round =>
    obtain ⟨k, rfl, hk, hno, HW⟩ := hrel
    by_cases hlt : k < n
    case pos =>
      have hkr : k < L.length := by have := HN.out; omega
      have k0 : (0 : Int) ≤ (k : Int) := by omega
      have k1 : (k : Int) < (n : Int) := by omega
      obtain ⟨b, off, r, rfl, hu, lb, hc⟩ := ls_at HR.out HW.out hkr
      obtain ⟨c0, c1, c2⟩ := hc wr (Below.refl _ _)
      have HCK := Shut.mk (HCC.out wr HW.out r (by rw [hu]; exact List.getElem_mem hkr))
      have HRK := Shut.mk hu
      obtain ⟨q, hq⟩ : ∃ q, q = p r := ⟨_, rfl⟩
      rw [← hq] at HCK
      have HP := Shut.mk hq
      clear hc hu hq
      cases q with
      | true =>
        have HE : Shut (R = (k : Int)) := ⟨by
          rw [HQ.out]
          unfold idxL
          have : L.findIdx? p = some k := by
            rw [List.findIdx?_eq_some_iff_getElem]
            refine ⟨hkr, by rw [← HRK.out, ← HP.out], fun j hj => ?_⟩
            have := hno.out j (by omega) hj
            rw [this]
            simp
          rw [this]⟩
        go_wp2_with (go_at_call 63; refine HCK.out.mono ?_; rintro e w1 ⟨rfl, hb1⟩; have HB1 := Shut.mk (HW.out.trans (hb1.mono HW.out.size)); clear hb1)
        go_ret
        exact ⟨by rw [HE.out]; rfl, HB1.out⟩
      | false =>
        go_wp2_with (go_at_call 63; refine HCK.out.mono ?_; rintro e w1 ⟨rfl, hb1⟩; have HB1 := Shut.mk (HW.out.trans (hb1.mono HW.out.size)); clear hb1)
        go_roundw
        case rel => exact ⟨k + 1, by go_num, by omega, ⟨fun j hj hjk => by
          rcases Nat.lt_succ_iff_lt_or_eq.1 hjk with e | e
          · exact hno.out j hj e
          · subst e; rw [← HRK.out, ← HP.out]⟩, HB1⟩
        case measure => simp [intOf]; omega
    case neg =>
      obtain rfl : n = k := by omega
      have HE : Shut (R = -1) := ⟨by
        rw [HQ.out]
        unfold idxL
        have : L.findIdx? p = none := by
          rw [List.findIdx?_eq_none_iff]
          intro x hx
          obtain ⟨j, hj, rfl⟩ := List.getElem_of_mem hx
          exact hno.out j hj (by have := HN.out; omega)
        rw [this]⟩
      go_wp2_with fail
      go_ret
      exact ⟨by rw [HE.out]; rfl, HW.out⟩
/-- A lease laid into a row. -/
theorem OwS.lease {w0 W : World} {S : List Str} {g n c : Nat} {X : List LsM} (h : OwS w0 W S 35 3 (.slice (some ⟨g, 0, none⟩) n c) n (lsS X)) (i : Nat) (hi : i < X.length) (r : LsM) :
    OwS w0 (((W.setCell ⟨g, i * 3, none⟩ (.string r.path)).setCell ⟨g, i * 3 + 1, none⟩ (.int .i64 r.who)).setCell ⟨g, i * 3 + 2, none⟩ (.int .i64 r.seen)) S 35 3 (.slice (some ⟨g, 0, none⟩) n c) n (lsS (X.set i r)) := by
  have k := ((h.cell (i * 3) (.string r.path)).cell (i * 3 + 1) (.int .i64 r.who)).cell (i * 3 + 2) (.int .i64 r.seen)
  have e : setL (lsS X) (i * 3) (lsC r) = lsS (X.set i r) := flat_setL lsC_len X i hi r
  rw [← e]
  exact k
/-- Where the deleting stands. -/
structure DL (w0 W : World) (S : List Str) (g n cap : Nat) (p : LsM → Bool) (L X : List LsM) (i j : Nat) : Prop where
  own : OwS w0 W S 35 3 (.slice (some ⟨g, 0, none⟩) n cap) n (lsS X)
  len : X.length = n
  pre : X.take i = (L.take j).filter (fun r => !p r)
  rest : ∀ t, j ≤ t → X[t]? = L[t]?
theorem DL.start {w0 W : World} {S : List Str} {g n cap : Nat} {p : LsM → Bool} {L : List LsM} {i : Nat} (h : OwS w0 W S 35 3 (.slice (some ⟨g, 0, none⟩) n cap) n (lsS L)) (hn : n = L.length) (hi : L.findIdx? p = some i) : DL w0 W S g n cap p L L i (i + 1) := by
  obtain ⟨hil, h1, h2⟩ := List.findIdx?_eq_some_iff_getElem.1 hi
  refine ⟨h, hn.symm, ?_, fun t _ => rfl⟩
  rw [filter_take _ L i hil, if_neg (by rw [h1]; simp), List.append_nil]
  refine (List.filter_eq_self.2 fun r hr => ?_).symm
  obtain ⟨j, hj, rfl⟩ := List.getElem_of_mem hr
  rw [List.length_take] at hj
  rw [List.getElem_take]
  simpa using h2 j (by omega)
theorem DL.skip {w0 W : World} {S : List Str} {g n cap : Nat} {p : LsM → Bool} {L X : List LsM} {i j : Nat} (h : DL w0 W S g n cap p L X i j) (hj : j < L.length) (hp : p L[j] = true) : DL w0 W S g n cap p L X i (j + 1) :=
  ⟨h.own, h.len, by rw [filter_take _ L j hj, if_neg (by rw [hp]; simp), List.append_nil]; exact h.pre, fun t ht => h.rest t (by omega)⟩
theorem DL.move {w0 W : World} {S : List Str} {g n cap : Nat} {p : LsM → Bool} {L X : List LsM} {i j : Nat} (h : DL w0 W S g n cap p L X i j) (hj : j < L.length) (hp : p L[j] = false) (hij : i < j) (hn : L.length = n) :
    DL w0 (((W.setCell ⟨g, i * 3, none⟩ (.string L[j].path)).setCell ⟨g, i * 3 + 1, none⟩ (.int .i64 L[j].who)).setCell ⟨g, i * 3 + 2, none⟩ (.int .i64 L[j].seen)) S g n cap p L (X.set i L[j]) (i + 1) (j + 1) := by
  have hi : i < X.length := by rw [h.len]; omega
  refine ⟨h.own.lease i hi L[j], by rw [List.length_set]; exact h.len, ?_, fun t ht => ?_⟩
  · rw [filter_take _ L j hj, if_pos (by rw [hp]; rfl), ← h.pre, List.take_succ_eq_append_getElem (by rw [List.length_set]; exact hi), List.getElem_set_self]
    congr 1
    rw [List.take_set_of_le (Nat.le_refl _)]
  · rw [List.getElem?_set_ne (by omega)]
    exact h.rest t (by omega)
theorem DL.fin {w0 W : World} {S : List Str} {g n cap : Nat} {p : LsM → Bool} {L X : List LsM} {i j : Nat} (h : DL w0 W S g n cap p L X i j) (hj : n ≤ j) (hs : L.length = n) (hin : i ≤ n) (vs : List Value) :
    OwS w0 (W.setCells g (i * 3) vs) S 35 3 (.slice (some ⟨g, 0, none⟩) i cap) i (lsS (L.filter fun r => !p r)) ∧ i = (L.filter fun r => !p r).length := by
  have hpre := h.pre
  rw [List.take_of_length_le (by omega : L.length ≤ j)] at hpre
  have hlen : i = (L.filter fun r => !p r).length := by rw [← hpre, List.length_take, h.len]; omega
  have ho := h.own.shorter hin
  have hc : (lsS X).take (i * 3) = lsS (L.filter fun r => !p r) := by
    rw [← hpre]
    have e2 : lsS X = lsS (X.take i) ++ lsS (X.drop i) := by
      conv => lhs; rw [← List.take_append_drop i X]
      exact List.flatMap_append
    rw [e2]
    have hl : (lsS (X.take i)).length = i * 3 := by rw [lsS_len, List.length_take, h.len, Nat.min_eq_left hin]
    rw [← hl, List.take_left]
  rw [hc] at ho
  exact ⟨OwS.past vs (i * 3) _ _ ho (by rw [lsS_len, ← hlen]; exact Nat.le_refl _), hlen⟩
abbrev zeroL : Array Value := #[.string ⟨#[]⟩, .int .i64 0, .int .i64 0]
theorem zeros_one9 (m : Nat) : ∀ v ∈ (Builtin.zeroCells zeroL m).toList, v.oneCell' = true := by
  intro v hv
  unfold Builtin.zeroCells at hv
  simp only [Array.toList_map, List.mem_map] at hv
  obtain ⟨i, -, rfl⟩ := hv
  have : i % 3 < 3 := Nat.mod_lt _ (by decide)
  show (zeroL[i % 3]!).oneCell' = true
  generalize i % 3 = q at this
  match q, this with
  | 0, _ => rfl
  | 1, _ => rfl
  | 2, _ => rfl
theorem zeros_len9 (m : Nat) : (Builtin.zeroCells zeroL m).toList.length = m * 3 := by
  unfold Builtin.zeroCells
  simp
theorem clear_run9 (g o m c : Nat) (W : World) (hc : ∀ j, j < (m + 1) * 3 → (W.cell? ⟨g, o + j, none⟩).isSome = true ∧ W.frozen? ⟨g, o + j, none⟩ = false) : Sem.run Try.prog (Builtin.clear_ #[24] 0 #[.slice (some ⟨g, o, none⟩) (m + 1) c]) W = .ok (.tuple #[]) (W.setCells g o (Builtin.zeroCells zeroL (m + 1)).toList) := by
  have hz : ∀ w, Sem.run Try.prog (zeroValue 35) w = .ok (.agg zeroL) w := fun w => by kernel_rfl
  have hs := run_storeCells_cells (P := Try.prog) g o (Builtin.zeroCells zeroL (m + 1)).toList 0 W (fun j hj => by rw [Nat.add_zero]; exact (hc j (by rw [← zeros_len9]; exact hj)).1) (fun j hj => by rw [Nat.add_zero]; exact (hc j (by rw [← zeros_len9]; exact hj)).2) (zeros_one9 (m + 1))
  unfold Builtin.clear_
  simp [go_sem, hz, Value.cells, hs]
set_option maxRecDepth 100000 in
set_option maxHeartbeats 4000000 in
theorem deleteLeases {w0 W : World} {S : List Str} {n cap : Nat} {av : Option Addr} {L : List LsM} (h : OwS w0 W S 35 3 (.slice av n cap) n (lsS L)) (hnl : n = L.length) (p : LsM → Bool) (cv : Value) (hn : n ≤ 3000000)
    (HC : ∀ W', SL w0 W' S → ∀ r : LsM, Calls Try.prog 63 #[lsv r, cv] W' fun e w' => e = .returned (.bool (p r)) ∧ Below W'.heap.size W' w') :
    Calls Try.prog 62 #[.slice av n cap, .func (.func 63) #[] #[cv]] W fun e w' => ∃ m, e = .returned (.slice av m cap) ∧ OwS w0 w' S 35 3 (.slice av m cap) m (lsS (L.filter fun r => !p r)) ∧ m = (L.filter fun r => !p r).length := by
  have HIX := Shut.mk (indexLease p cv (cap := cap) (FRw.of_own h.own).1.crow hnl hn (fun W' hb r _ => HC W' (h.sl.below hb) r))
  have HS := Shut.mk h
  have HCC := Shut.mk HC
  have HN := Shut.mk hnl
  clear h HC hnl
  cases ho : L.findIdx? p with
  | none =>
    have hix : idxL p L = -1 := by unfold idxL; rw [ho]
    rw [hix] at HIX
    have HO := Shut.mk ho
    clear hix ho
    go_enter Try.func62, Try.ntmps62
    go_wp2_with (go_at_call 75; refine HIX.out.mono ?_; rintro e w1 ⟨rfl, hb1⟩; have HB1 := Shut.mk hb1; clear hb1)
    go_ret
    have hall : L.filter (fun r => !p r) = L := List.filter_eq_self.2 fun r hr => by
      have := List.findIdx?_eq_none_iff.1 HO.out r hr
      simp [this]
    rw [hall]
    exact ⟨n, rfl, HS.out.below HB1.out, HN.out⟩
  | some i0 =>
    have hix : idxL p L = (i0 : Int) := by unfold idxL; rw [ho]
    rw [hix] at HIX
    have HO := Shut.mk ho
    clear hix ho
    have i1 : ((i0 : Int) == -1) = false := by simp
    have hi0 : i0 < n := by
      obtain ⟨hi', -⟩ := List.findIdx?_eq_some_iff_getElem.1 HO.out
      rw [HN.out]
      exact hi'
    have hg : ∃ g, av = some ⟨g, 0, none⟩ := by
      rcases HS.out.own.2 with ⟨e, e2⟩ | ⟨g, cap', cur, e, _⟩
      · omega
      · cases e; exact ⟨g, rfl⟩
    obtain ⟨g, rfl⟩ := hg
    have hw1 : IntKind.i64.wrap ((i0 : Int) + 1) = ((i0 + 1 : Nat) : Int) := by rw [IntWalk.i64_in _ ⟨by omega, by omega⟩]; omega
    go_enter Try.func62, Try.ntmps62
    go_wp2_with (go_at_call 75; refine HIX.out.mono ?_; rintro e w1 ⟨rfl, hb1⟩; have HD1 := Shut.mk (DL.start (HS.out.below hb1) HN.out HO.out); clear hb1)
    go_loopw [5, 6] (fun iv jv wr => ∃ (i j : Nat) (X : List LsM), iv = .int .i64 i ∧ jv = .int .i64 j ∧ j ≤ n ∧ i < j ∧ Shut (DL w0 wr S g n cap p L X i j)) (fun _ jv _ => n - (intOf jv).toNat)
    case atStart => exact ⟨i0, i0 + 1, L, rfl, rfl, by omega, by omega, HD1⟩
    case round =>
      clear HD1
      obtain ⟨i, j, X, rfl, rfl, hj, hij, HD⟩ := hrel
      obtain ⟨wo, rfl⟩ : ∃ wo, wo = wr := ⟨_, rfl⟩
      have HRN : Shut (L.length = n) := ⟨HN.out.symm⟩
      by_cases hlt : j < n
      case pos =>
        have hjr : j < L.length := by rw [HRN.out]; exact hlt
        have hjx : j < X.length := by rw [HD.out.len]; exact hlt
        have hxj : X[j] = L[j] := by
          have := HD.out.rest j (Nat.le_refl _)
          rw [List.getElem?_eq_getElem hjx, List.getElem?_eq_getElem hjr] at this
          exact Option.some.inj this
        have j0 : (0 : Int) ≤ (j : Int) := by omega
        have j1 : (j : Int) < (n : Int) := by omega
        have k0 : (0 : Int) ≤ (i : Int) := by omega
        have k1 : (i : Int) < (n : Int) := by omega
        have hw := own_wcells HD.out.own.own
        have c0 := (hw.2 (j * 3) _ (flat_get lsC_len X j hjx 0 (by omega))).1
        have c1 := (hw.2 (j * 3 + 1) _ (flat_get lsC_len X j hjx 1 (by omega))).1
        have c2 := (hw.2 (j * 3 + 2) _ (flat_get lsC_len X j hjx 2 (by omega))).1
        have c0' : _ = some (Value.string X[j].path) := c0
        have c1' : _ = some (Value.int .i64 X[j].who) := c1
        have c2' : _ = some (Value.int .i64 X[j].seen) := c2
        rw [hxj] at c0' c1' c2'
        obtain ⟨r, hrj⟩ : ∃ r, r = L[j] := ⟨_, rfl⟩
        rw [← hrj] at c0' c1' c2'
        have HRJ := Shut.mk hrj
        have lg : g < wo.heap.size := hw.1
        have HVX := Shut.mk (HD.out.own.box #[.string r.path, .int .i64 r.who, .int .i64 r.seen] 35)
        obtain ⟨vb, hvb⟩ : ∃ vb, vb = wo.heap.size := ⟨_, rfl⟩
        have hgv : g < vb := by omega
        rw [← hvb] at HVX
        clear hw c0 c1 c2 hxj hrj
        go_upto_region 8 with fail
        refine wp_shade (fun V => OwS w0 V (bxS vb [.string r.path, .int .i64 r.who, .int .i64 r.seen] :: S) 35 3 (.slice (some ⟨g, 0, none⟩) n cap) n (lsS X)) HVX.out ?_
        intro V hV
        have HV := Shut.mk hV
        rw [← hvb]
        have HPR := Shut.mk (And.intro HD.out.len (And.intro HD.out.pre HD.out.rest))
        clear hV hvb c0' c1' c2' lg HD HVX
        have HCK := Shut.mk (HCC.out V HV.out.sl.tail r)
        have y0 := (HV.out.sl.bx 0 rfl 0 _ rfl).1
        have y1 := (HV.out.sl.bx 0 rfl 1 _ rfl).1
        have y2 := (HV.out.sl.bx 0 rfl 2 _ rfl).1
        obtain ⟨q, hq⟩ : ∃ q, q = p r := ⟨_, rfl⟩
        rw [← hq] at HCK
        have HQ := Shut.mk hq
        clear hq
        cases q with
        | true =>
          go_wp2_with (go_at_call 63; refine HCK.out.mono ?_; rintro e w5 ⟨rfl, hb5⟩; have HV5 := Shut.mk (HV.out.below hb5).tail; clear hb5 y0 y1 y2)
          go_roundw
          case rel => exact ⟨i, j + 1, X, rfl, by go_num, by omega, by omega, ⟨(DL.mk HV5.out HPR.out.1 HPR.out.2.1 HPR.out.2.2).skip hjr (by rw [← HRJ.out, ← HQ.out])⟩⟩
          case measure => simp [intOf]; omega
        | false =>
          go_upto_region 9 with (go_at_call 63; refine HCK.out.mono ?_; rintro e w5 ⟨rfl, hb5⟩; have HV5 := Shut.mk (HV.out.below hb5); clear hb5 y0 y1 y2)
          have hii : i < X.length := by rw [HPR.out.1]; omega
          have hw := own_wcells HV5.out.own
          obtain ⟨z0, zf0⟩ := hw.2 (i * 3) _ (flat_get lsC_len X i hii 0 (by omega))
          obtain ⟨z1, zf1⟩ := hw.2 (i * 3 + 1) _ (flat_get lsC_len X i hii 1 (by omega))
          obtain ⟨z2, zf2⟩ := hw.2 (i * 3 + 2) _ (flat_get lsC_len X i hii 2 (by omega))
          have y0 := (HV5.out.sl.bx 0 rfl 0 _ rfl).1
          have y1 := (HV5.out.sl.bx 0 rfl 1 _ rfl).1
          have y2 := (HV5.out.sl.bx 0 rfl 2 _ rfl).1
          have ne1 : ¬ (vb = g) := by omega
          have ne2 : ¬ (g = vb) := by omega
          clear hw
          go_upto_region 10 with fail
          refine wp_shade (fun V6 => DL w0 V6 S g n cap p L (X.set i r) (i + 1) (j + 1)) (by
            have h9 := (DL.mk HV5.out.tail HPR.out.1 HPR.out.2.1 HPR.out.2.2).move hjr (by rw [← HRJ.out, ← HQ.out]) hij HRN.out
            rw [← HRJ.out] at h9
            exact h9) ?_
          intro V6 hV6
          have HV6 := Shut.mk hV6
          clear hV6 y0 y1 y2 z0 z1 z2 zf0 zf1 zf2
          go_wp2_with fail
          go_roundw
          case rel => exact ⟨i + 1, j + 1, X.set i r, by go_num, by go_num, by omega, by omega, HV6⟩
          case measure => simp [intOf]; omega
      case neg =>
        have j1 : ¬ (j : Int) < (n : Int) := by omega
        have hin : i ≤ n := by omega
        have k0 : (0 : Int) ≤ (i : Int) := by omega
        have k1 : (i : Int) ≤ (n : Int) := by omega
        have hcap : n ≤ cap := (FRw.of_own HD.out.own.own).2
        have hnc : (n : Int) ≤ (cap : Int) := by omega
        have hkc : (i : Int) ≤ (cap : Int) := by omega
        obtain ⟨m', hm'⟩ : ∃ m', n - i = m' + 1 := ⟨n - i - 1, by omega⟩
        have HCL := Shut.mk (clear_run9 g (i * 3) m' (cap - i) wo (fun q hq => by
          have hlt9 : i * 3 + q < (lsS X).length := by rw [lsS_len, HD.out.len]; omega
          have := (own_wcells HD.out.own.own).2 (i * 3 + q) _ (List.getElem?_eq_getElem hlt9)
          exact ⟨by rw [this.1]; rfl, this.2⟩))
        rw [← hm'] at HCL
        have hcl := HCL.out
        have HF := Shut.mk (HD.out.fin (by omega) HRN.out hin (Builtin.zeroCells zeroL (n - i)).toList)
        clear hm' HCL
        go_wp2_with fail
        go_ret
        exact ⟨by rw [← HF.out.2]; rfl, by rw [← HF.out.2]; exact HF.out.1⟩
set_option maxRecDepth 100000 in
set_option maxHeartbeats 4000000 in
theorem implDropT {w0 W : World} {tb n : Nat} {v : Value} {L : List LsM} (h : OwS w0 W [tbS tb 0 v] 35 3 v n (lsS L)) (hn : n = L.length) (hl : n ≤ 3000000) (p : ByteArray) :
    Calls Try.prog 42 #[.pointer (some ⟨tb, 0, none⟩), .string p] W fun e W' => e = .returned (.tuple #[]) ∧ ∃ v' m, OwS w0 W' [tbS tb 0 v'] 35 3 v' m (lsS (dropX9 L p)) ∧ m = (dropX9 L p).length := by
  obtain ⟨av, cv, rfl⟩ := own_row_slice h.own
  have HN := Shut.mk hn
  have HX := Shut.mk (h.box #[.string p] 9)
  obtain ⟨pb, hpb⟩ : ∃ q, q = W.heap.size := ⟨_, rfl⟩
  rw [← hpb] at HX
  clear h hn
  go_enter_defers Try.func42, Try.ntmps42
  go_upto_region 1 with fail
  refine wp_shade (fun V => OwS w0 V [bxS pb [.string p], tbS tb 0 (.slice av n cv)] 35 3 (.slice av n cv) n (lsS L)) HX.out ?_
  intro V0 hV0
  rw [← hpb]
  obtain ⟨x0, z0⟩ := hV0.sl.bx 1 rfl 0 _ rfl
  have HW1 := Shut.mk (hV0.put 1 rfl 0 (.int .i32 1) (by simp))
  simp only [List.set_cons_zero, List.set_cons_succ] at HW1
  clear hV0 hpb HX
  go_upto_region 3 with (go_at_call 56; refine (Go.MuLone.lock_free muLib ⟨tb, 0, none⟩ _ x0 z0).mono ?_; rintro e w1 ⟨rfl, rfl⟩)
  refine wp_shade (fun V => OwS w0 V [bxS pb [.string p], tbS tb 1 (.slice av n cv)] 35 3 (.slice av n cv) n (lsS L)) HW1.out ?_
  intro W1 hW1
  have H1 := Shut.mk hW1
  have HDF := Shut.mk (deleteLeases hW1 HN.out (fun r => r.path.toList == p.toList) (.pointer (some ⟨pb, 0, none⟩)) hl (fun W' hs r => test_path r pb p W' (hs.bx 0 rfl 0 _ rfl).1 (hs.at 0 rfl).1))
  have y2 := (hW1.sl.bx 1 rfl 2 _ rfl).1
  clear HW1 hW1 x0 z0
  have hmf : ∀ (fn : Fn) (first cap : Array Value) (w : World), (Instr.makeFunc fn first cap).run Try.prog w = .ok (.func fn first cap) w := fun _ _ _ _ => rfl
  go_wp2_with (go_at_call 62; refine HDF.out.mono ?_; rintro e w2 ⟨m, rfl, ho, hm⟩; have HM := Shut.mk hm; obtain ⟨q2, qz2⟩ := ho.sl.bx 1 rfl 2 _ rfl; have HP := Shut.mk (ho.put 1 rfl 2 (.slice av m cv) (by simp)); clear ho hm)
  simp only [List.set_cons_zero, List.set_cons_succ] at HP
  obtain ⟨r0, r1, r2⟩ := at_door2 HP.out.tail
  have HR := Shut.mk r2
  clear r2
  refine leaves_cons (f := 57) (args := #[.pointer (some ⟨tb, 0, none⟩)]) (by simp) (by simp [go_sem]) ?_
  refine (Go.MuLone.unlock_deferred muLib ⟨tb, 0, none⟩ .returning _ r0 r1).mono ?_
  rintro e u' w'' ⟨rfl, rfl, rfl⟩
  exact ⟨_, results_none rfl _ _ _, rfl, _, m, HR.out, HM.out⟩
set_option maxRecDepth 100000 in
theorem implDropLease (us : List LsM) (a : Option Addr) (cap : Nat) (p : ByteArray) (w : World) (hr : LsRow w a us) (hl : us.length ≤ 1048576) (hz : lsSum us ≤ 1048576) (_ : p.size ≤ 1048576) :
    Calls Try.prog 15 #[.slice a us.length cap, .string p] w fun e w' => LsPost (dropX9 us p) w e w' := by
  have HT := Shut.mk (implTableOf us a cap w hr hl)
  have HZ : Shut (∀ u ∈ dropX9 us p, u.path.size ≤ 1048576) := ⟨fun u hu => ls_small hz u (List.mem_filter.1 hu).1⟩
  have HLE := Shut.mk (dropX9_len us p)
  obtain ⟨n, hn⟩ : ∃ n, n = us.length := ⟨_, rfl⟩
  have HN := Shut.mk hn
  rw [← hn] at HT hl HLE ⊢
  clear hr hn hz
  go_enter Try.func15, Try.ntmps15
  go_wp2_with (first
    | (go_at_call 38; refine HT.out.mono ?_; rintro e w1 ⟨tb, v, rfl, ho⟩; have HO := Shut.mk ho; clear ho)
    | (go_at_call 42; refine (implDropT HO.out HN.out (by omega) p).mono ?_; rintro e w2 ⟨rfl, v2, m2, ho, hm⟩; have HO2 := Shut.mk ho; have HM2 := Shut.mk hm; clear ho hm)
    | (go_at_call 40; refine (implTold HO2.out HM2.out (by have := HLE.out; have := HM2.out; omega) HZ.out).mono ?_; rintro e w3 ⟨a3, c3, rfl, hp⟩; have HP := Shut.mk hp; clear hp))
  go_ret
  exact ⟨a3, c3, rfl, HP.out⟩
end Go.Proofs.Ytcnjjbgilpgceaa
/- LtF: The library's slices.Insert of one lease into a row of one's own. -/
namespace Go.Proofs.Ytcnjjbgilpgceaa
set_option maxRecDepth 100000
open Go.RowKit BigFrame
attribute [local go_sem ↓] Go.wp_at_zero Go.wp_at_succ

section
variable {P : Program}
/-- 'copy(d, s)' of elements of several cells. -/
theorem run_copy_any9 (w : World) (dT sT ty elem : TypeId) (sz m b o dLen dCap : Nat) (a : Addr) (sLen sCap : Nat) (cs : List Value)
    (hu : P.underlying dT = some (.slice elem)) (hs : (P.info? elem).map (·.size) = some sz) (hm : Nat.min sLen dLen = m) (hn : cs.length = m * sz)
    (hsrc : ∀ j v, cs[j]? = some v → w.cell? (a.add j) = some v) (hc : ∀ j, j < cs.length → (w.cell? ⟨b, o + j, none⟩).isSome = true) (hf : ∀ j, j < cs.length → w.frozen? ⟨b, o + j, none⟩ = false) (h1 : ∀ v ∈ cs, v.oneCell' = true) :
    (Builtin.copy_ #[dT, sT] ty #[.slice (some ⟨b, o, none⟩) dLen dCap, .slice (some a) sLen sCap]).run P w = .ok (goInt m) (w.setCells b o cs) := by
  have hl := run_loadCells_list (P := P) w a cs hsrc
  rw [hn] at hl
  have hst := run_storeCells_cells (P := P) b o cs 0 w (by simpa using hc) (by simpa using hf) h1
  cases hq : P.info? elem with
  | none => simp [hq] at hs
  | some i =>
    have hi : i.size = sz := by simpa [hq] using hs
    simp [Builtin.copy_, run_underlying hu, Builtin.lenOf, Builtin.firstCells, sizeOf, typeInfo, hq, hi, hm, hl, hst]
end
theorem setL_last (A R D : List Value) (h : R.length = D.length) : setL (A ++ R) A.length D = A ++ D := by
  have := setL_app A R 0 D
  rw [Nat.add_zero] at this
  rw [this]
  have k := setL_head R [] D h
  rw [List.append_nil, List.append_nil] at k
  rw [k]
theorem setL_mid (A Y M D : List Value) (h : Y.length = M.length + D.length) : setL (setL (A ++ Y) A.length M) (A.length + M.length) D = A ++ M ++ D := by
  have e1 : setL (A ++ Y) A.length M = A ++ M ++ Y.drop M.length := by
    have := setL_app A Y 0 M
    rw [Nat.add_zero] at this
    rw [this]
    have e : Y = Y.take M.length ++ Y.drop M.length := (List.take_append_drop _ _).symm
    have k := setL_head (Y.take M.length) (Y.drop M.length) M (by rw [List.length_take]; omega)
    rw [← e] at k
    rw [k, List.append_assoc]
  rw [e1, ← List.length_append]
  exact setL_last _ _ _ (by rw [List.length_drop]; omega)
theorem setL_mid2 (A Y M D : List Value) (h : Y.length = M.length + D.length) : setL (setL (A ++ Y) (A.length + M.length) D) A.length M = A ++ M ++ D := by
  have e : Y = Y.take M.length ++ Y.drop M.length := (List.take_append_drop _ _).symm
  have hl : (Y.take M.length).length = M.length := by rw [List.length_take]; omega
  have e1 : setL (A ++ Y) (A.length + M.length) D = A ++ (Y.take M.length ++ D) := by
    have k := setL_last (A ++ Y.take M.length) (Y.drop M.length) D (by rw [List.length_drop]; omega)
    rw [List.append_assoc, ← e, List.length_append, hl] at k
    rw [k, List.append_assoc]
  rw [e1]
  have k := setL_app A (Y.take M.length ++ D) 0 M
  rw [Nat.add_zero] at k
  rw [k, setL_head _ _ _ hl, List.append_assoc]
/-- A new row, made beside stretches. -/
theorem OwS.made {w0 W : World} {S : List Str} {ty sz m G : Nat} (h : SL w0 W S) (ROW : Array Value) (hm : m ≤ G) (hG : G ≤ maxLen) (hsz : ROW.size = G * sz) :
    OwS w0 (W.alloc (.cells ROW ty)) S ty sz (.slice (some ⟨W.heap.size, 0, none⟩) m G) m (ROW.toList.take (m * sz)) := by
  have hle : m * sz ≤ G * sz := Nat.mul_le_mul_right _ hm
  refine ⟨h.below ((Below.refl _ _).alloc (Nat.le_refl _) _), ⟨by rw [List.length_take, Array.length_toList, hsz]; omega, .inr ⟨W.heap.size, G, ROW, rfl, h.bel.size, heap_alloc_new W _, hm, hG, hsz, rfl⟩⟩, fun q e s hs => ?_⟩
  have eq : W.heap.size = q := by simpa [Value.ownBlock] using e
  have := (h.is s hs).2.2.2
  omega
theorem OwS.heap {w0 W : World} {S : List Str} {ty sz g n c : Nat} {L : List Value} (h : OwS w0 W S ty sz (.slice (some ⟨g, 0, none⟩) n c) n L) : ∃ cur, W.heap[g]? = some (.cells cur ty (0, 0)) ∧ cur.size = c * sz ∧ c ≤ maxLen := by
  rcases h.own.2 with ⟨h', _⟩ | ⟨g', cap', cur, h', hb, hg, hnc, hcm, hcs, htake⟩
  · simp at h'
  · simp only [Value.slice.injEq, Option.some.injEq, Addr.mk.injEq, and_true, true_and] at h'
    obtain ⟨rfl, rfl⟩ := h'
    exact ⟨cur, hg, hcs, hcm⟩
theorem ls_mid (L : List LsM) (i : Nat) (x : LsM) : lsS (L.take i ++ [x] ++ L.drop i) = lsS (L.take i) ++ lsC x ++ lsS (L.drop i) := by simp [lsS]
theorem ls_cut (L : List LsM) (i : Nat) : lsS L = lsS (L.take i) ++ lsS (L.drop i) := by
  conv => lhs; rw [← List.take_append_drop i L]
  exact List.flatMap_append
set_option maxRecDepth 100000 in
set_option maxHeartbeats 4000000 in
/-- At the end. -/
theorem insertEnd {w0 W : World} {S : List Str} {n c vb : Nat} {av : Option Addr} {L : List LsM} {x : LsM} (h : OwS w0 W (bxS vb (lsC x) :: S) 35 3 (.slice av n c) n (lsS L)) (hl : n ≤ 1048576) :
    Calls Try.prog 60 #[.slice av n c, .int .i64 (n : Nat), .slice (some ⟨vb, 0, none⟩) 1 1] W fun e W' => ∃ v', e = .returned v' ∧ OwS w0 W' (bxS vb (lsC x) :: S) 35 3 v' (n + 1) (lsS (L ++ [x])) := by
  obtain ⟨i0, hin, hz0, hz1, hz2⟩ := info_parts infoLease
  have hcl : ∀ j u, (lsC x)[j]? = some u → W.cell? ((⟨vb, 0, none⟩ : Addr).add j) = some u := fun j u hu => by
    have q := (h.sl.bx 0 rfl j u hu).1
    cases j with
    | zero => exact q
    | succ j => simpa [Addr.add] using q
  have HCL := Shut.mk hcl
  have HO := Shut.mk h
  have hnc : n ≤ c := (FRw.of_own h.own).2
  have hown := h.own
  have hbs := h.sl.bel.size
  have h1 : (n : Int) ≤ (c : Int) := by omega
  clear h hcl
  by_cases hcn : c = n
  · subst hcn
    go_enter Try.func60, Try.ntmps60
    cases av with
    | none =>
      go_wp2_with (at_builtin; refine wpList_append_own_at _ rfl _ _ 24 rfl w0.heap.size 35 i0 _ 3 32 Try.underlying24 hin hz0 hz1 hz2 rfl (by decide) _ _ _ rfl hown ⟨vb, 0, none⟩ 1 1 (lsC x) rfl rfl HCL.out ?c2 ?c3 ?c4 ?c5 ?_)
      case c2 => simp [Value.oneCell', lsC]
      case c3 => unfold maxLen; omega
      case c4 => omega
      case c5 => first | omega | (simp; omega)
      intro v9 w9 ho hg _ hat
      have HL9 := Shut.mk (HO.out.more (Below.refl _ _) ho hg (by simpa using hat))
      rw [← lss_snoc] at HL9
      clear ho hg hat hown hbs
      go_wp2_with fail
      go_ret
      exact ⟨_, rfl, HL9.out⟩
    | some q =>
      go_wp2_with (at_builtin; refine wpList_append_own_at _ rfl _ _ 24 rfl w0.heap.size 35 i0 _ 3 32 Try.underlying24 hin hz0 hz1 hz2 rfl (by decide) _ _ _ rfl hown ⟨vb, 0, none⟩ 1 1 (lsC x) rfl rfl HCL.out ?c2 ?c3 ?c4 ?c5 ?_)
      case c2 => simp [Value.oneCell', lsC]
      case c3 => unfold maxLen; omega
      case c4 => omega
      case c5 => first | omega | (simp; omega)
      intro v9 w9 ho hg _ hat
      have HL9 := Shut.mk (HO.out.more (Below.refl _ _) ho hg (by simpa using hat))
      rw [← lss_snoc] at HL9
      clear ho hg hat hown hbs
      go_wp2_with fail
      go_ret
      exact ⟨_, rfl, HL9.out⟩
  · go_enter Try.func60, Try.ntmps60
    cases av with
    | none =>
      go_wp2_with (at_builtin; refine wpList_append_own_at _ rfl _ _ 24 rfl w0.heap.size 35 i0 _ 3 32 Try.underlying24 hin hz0 hz1 hz2 rfl (by decide) _ _ _ rfl hown ⟨vb, 0, none⟩ 1 1 (lsC x) rfl rfl HCL.out ?c2 ?c3 ?c4 ?c5 ?_)
      case c2 => simp [Value.oneCell', lsC]
      case c3 => unfold maxLen; omega
      case c4 => omega
      case c5 => first | omega | (simp; omega)
      intro v9 w9 ho hg _ hat
      have HL9 := Shut.mk (HO.out.more (Below.refl _ _) ho hg (by simpa using hat))
      rw [← lss_snoc] at HL9
      clear ho hg hat hown hbs
      go_wp2_with fail
      go_ret
      exact ⟨_, rfl, HL9.out⟩
    | some q =>
      go_wp2_with (at_builtin; refine wpList_append_own_at _ rfl _ _ 24 rfl w0.heap.size 35 i0 _ 3 32 Try.underlying24 hin hz0 hz1 hz2 rfl (by decide) _ _ _ rfl hown ⟨vb, 0, none⟩ 1 1 (lsC x) rfl rfl HCL.out ?c2 ?c3 ?c4 ?c5 ?_)
      case c2 => simp [Value.oneCell', lsC]
      case c3 => unfold maxLen; omega
      case c4 => omega
      case c5 => first | omega | (simp; omega)
      intro v9 w9 ho hg _ hat
      have HL9 := Shut.mk (HO.out.more (Below.refl _ _) ho hg (by simpa using hat))
      rw [← lss_snoc] at HL9
      clear ho hg hat hown hbs
      go_wp2_with fail
      go_ret
      exact ⟨_, rfl, HL9.out⟩
set_option maxRecDepth 100000 in
set_option maxHeartbeats 4000000 in
/-- Within, with no room: a new row. -/
theorem insertGrow {w0 W : World} {S : List Str} {n c vb i g : Nat} {L : List LsM} {x : LsM} (h : OwS w0 W (bxS vb (lsC x) :: S) 35 3 (.slice (some ⟨g, 0, none⟩) n c) n (lsS L)) (hnl : n = L.length) (hl : n ≤ 1048576) (hi : i < n) (hcn : c = n) :
    Calls Try.prog 60 #[.slice (some ⟨g, 0, none⟩) n c, .int .i64 (i : Nat), .slice (some ⟨vb, 0, none⟩) 1 1] W fun e W' => ∃ v', e = .returned v' ∧ OwS w0 W' (bxS vb (lsC x) :: S) 35 3 v' (n + 1) (lsS (L.take i ++ [x] ++ L.drop i)) := by
  obtain ⟨i0, hin, hz0, hzs, hz2⟩ := info_parts infoLease
  have hsz : (Try.prog.info? 35).map (·.size) = some 3 := by rw [hin]; simp [hzs]
  have hgl : g < W.heap.size := (h.lt g rfl).2
  have hvl : vb < W.heap.size := (h.sl.at 0 rfl).1
  have hA : (lsS (L.take i)).length = i * 3 := by rw [lsS_len, List.length_take]; omega
  have hD : (lsS (L.drop i)).length = (n - i) * 3 := by rw [lsS_len, List.length_drop]; omega
  have hcut := ls_cut L i
  have hmid := ls_mid L i x
  have hfl := own_wcells h.own
  have hold : (Builtin.firstCells i0.size i (.slice (some ⟨g, 0, none⟩) i c)).run Try.prog W.drew = .ok (lsS (L.take i)).toArray W.drew := by
    rw [hzs]
    exact run_firstCells_some W.drew 3 i ⟨g, 0, none⟩ i c (lsS (L.take i)) hA (fun j v hj => by
      rw [show (⟨g, 0, none⟩ : Addr).add j = ⟨g, j, none⟩ by cases j <;> simp [Addr.add]]
      exact (hfl.2 j v (by rw [hcut, List.getElem?_append_left (List.getElem?_eq_some_iff.1 hj).1]; exact hj)).1)
  obtain ⟨G, hG⟩ : ∃ G, G = grownCap W (n + 1) c 35 := ⟨_, rfl⟩
  obtain ⟨ROW, hROW⟩ : ∃ ROW : Array Value, ROW = (lsS (L.take i)).toArray ++ Builtin.zeroCells zeroL (n + 1 - i) ++ Builtin.zeroCells zeroL (G - (n + 1)) := ⟨_, rfl⟩
  have hrz : ∀ ty, (Builtin.append_ #[24, 3] ty #[.slice (some ⟨g, 0, none⟩) i c, .int .i64 ((n : Int) + 1 - (i : Int))]).run Try.prog W = .ok (.slice (some ⟨W.heap.size, 0, none⟩) (n + 1) G) (W.drew.alloc (.cells ROW 35)) := fun ty => by
    have h := Lib.run_append_grow_zeros (P := Try.prog) W 24 3 ty 35 i0 _ .i64 .i64 Try.underlying24 Try.underlying3 hin hz0 (some ⟨g, 0, none⟩) i c (lsS (L.take i)) hold (n + 1 - i) (by omega) (by omega) (by omega) (by omega) (by rw [hz2]; omega) (by rw [hz2, show i + (n + 1 - i) = n + 1 by omega]; exact growslice_fits (by omega) (by omega))
    rw [show i + (n + 1 - i) = n + 1 by omega, ← hG] at h
    rw [show (n : Int) + 1 - (i : Int) = ((n + 1 - i : Nat) : Int) by omega, hROW]
    exact h
  have hGn : n + 1 ≤ G := by rw [hG]; exact grownCap_ge W _ _ _
  have hGm : G ≤ maxLen := by rw [hG]; exact grownCap_le_maxLen W (n + 1) c 35 (by unfold maxLen; omega)
  have hRs : ROW.size = G * 3 := by
    rw [hROW, Array.size_append, Array.size_append, size_zeroCells, size_zeroCells, List.size_toArray, hA]
    show i * 3 + (n + 1 - i) * 3 + (G - (n + 1)) * 3 = G * 3
    omega
  have HM := OwS.made (m := n + 1) (G := G) (ty := 35) (sz := 3) (SL.drew h.sl) ROW hGn hGm hRs
  have hX : ROW.toList.take ((n + 1) * 3) = lsS (L.take i) ++ (ROW.toList.take ((n + 1) * 3)).drop (i * 3) := by
    conv => lhs; rw [← List.take_append_drop (i * 3) (ROW.toList.take ((n + 1) * 3))]
    rw [List.take_take, Nat.min_eq_left (by omega), hROW]
    congr 1
    rw [Array.toList_append, Array.toList_append, List.append_assoc, ← hA, List.take_left]
  obtain ⟨Y, hY⟩ : ∃ Y, Y = (ROW.toList.take ((n + 1) * 3)).drop (i * 3) := ⟨_, rfl⟩
  have hYl : Y.length = (lsC x).length + (lsS (L.drop i)).length := by
    rw [hY, List.length_drop, List.length_take, Array.length_toList, hRs, hD, lsC_len]
    omega
  rw [hX, ← hY] at HM
  have hd9 : W.drew.heap.size = W.heap.size := rfl
  rw [hd9] at HM
  obtain ⟨W1, hW1⟩ : ∃ W1, W1 = W.drew.alloc (.cells ROW 35) := ⟨_, rfl⟩
  rw [← hW1] at hrz HM
  have hw1 := own_wcells HM.own
  have hXl : (lsS (L.take i) ++ Y).length = (n + 1) * 3 := by rw [List.length_append, hA, hYl, hD, lsC_len]; omega
  have hOld : ∀ b j v, b < W.heap.size → W.cell? ⟨b, j, none⟩ = some v → W1.cell? ⟨b, j, none⟩ = some v := fun b j v hb hv => by rw [hW1, World.cell?_alloc_past (w := W.drew) _ b j hb]; exact hv
  have hone : ∀ u ∈ lsC x, u.oneCell' = true := fun u hu => lss_one [x] u (by simpa [lsS] using hu)
  have hcpA : ∀ (V : World), (∀ q, V.cell? q = W1.cell? q) → (∀ q, V.frozen? q = W1.frozen? q) → ∀ ty dc, (Builtin.copy_ #[24, 24] ty #[.slice (some ⟨W.heap.size, i * 3, none⟩) (n + 1 - i) dc, .slice (some ⟨vb, 0, none⟩) 1 1]).run Try.prog V = .ok (goInt (1 : Nat)) (V.setCells W.heap.size (i * 3) (lsC x)) := fun V hVc hVf ty dc =>
    run_copy_any9 (P := Try.prog) V _ _ ty 35 3 1 W.heap.size (i * 3) (n + 1 - i) dc ⟨vb, 0, none⟩ 1 1 (lsC x) Try.underlying24 hsz (by simp only [Nat.min_def]; split <;> omega) rfl
      (fun j v hj => by
        rw [show (⟨vb, 0, none⟩ : Addr).add j = ⟨vb, j, none⟩ by cases j <;> simp [Addr.add], hVc]
        exact hOld vb j v hvl (h.sl.bx 0 rfl j v hj).1)
      (fun j hj => by
        have := (hw1.2 (i * 3 + j) _ (List.getElem?_eq_getElem (by rw [hXl]; rw [lsC_len] at hj; omega))).1
        rw [hVc, this]; rfl)
      (fun j hj => by
        rw [hVf]
        exact (hw1.2 (i * 3 + j) _ (List.getElem?_eq_getElem (by rw [hXl]; rw [lsC_len] at hj; omega))).2) hone
  have HM2 := HM.sets (lsC x) (i * 3) _ _
  obtain ⟨W2, hW2⟩ : ∃ W2, W2 = W1.setCells W.heap.size (i * 3) (lsC x) := ⟨_, rfl⟩
  rw [← hW2] at HM2
  have hw2 := own_wcells HM2.own
  have hX2 : (setL (lsS (L.take i) ++ Y) (i * 3) (lsC x)).length = (n + 1) * 3 := by rw [setL_len, hXl]
  have hcpB : ∀ (V : World), (∀ q, V.cell? q = W2.cell? q) → (∀ q, V.frozen? q = W2.frozen? q) → ∀ ty dc sc, (Builtin.copy_ #[24, 24] ty #[.slice (some ⟨W.heap.size, (i + 1) * 3, none⟩) (n + 1 - (i + 1)) dc, .slice (some ⟨g, i * 3, none⟩) (n - i) sc]).run Try.prog V = .ok (goInt (n - i : Nat)) (V.setCells W.heap.size ((i + 1) * 3) (lsS (L.drop i))) := fun V hVc hVf ty dc sc =>
    run_copy_any9 (P := Try.prog) V _ _ ty 35 3 (n - i) W.heap.size ((i + 1) * 3) (n + 1 - (i + 1)) dc ⟨g, i * 3, none⟩ (n - i) sc (lsS (L.drop i)) Try.underlying24 hsz (by simp only [Nat.min_def]; split <;> omega) hD
      (fun j v hj => by
        have hlt := (List.getElem?_eq_some_iff.1 hj).1
        rw [show (⟨g, i * 3, none⟩ : Addr).add j = ⟨g, i * 3 + j, none⟩ by cases j <;> simp [Addr.add], hVc, hW2, World.cell?_setCells_out _ _ _ _ _ (fun e _ => absurd e (by show g ≠ W.heap.size; omega))]
        exact hOld g _ v hgl (hfl.2 (i * 3 + j) v (by rw [hcut, List.getElem?_append_right (by rw [hA]; omega), hA, Nat.add_sub_cancel_left]; exact hj)).1)
      (fun j hj => by
        have := (hw2.2 ((i + 1) * 3 + j) _ (List.getElem?_eq_getElem (by rw [hX2]; rw [hD] at hj; omega))).1
        rw [hVc, this]; rfl)
      (fun j hj => by
        rw [hVf]
        exact (hw2.2 ((i + 1) * 3 + j) _ (List.getElem?_eq_getElem (by rw [hX2]; rw [hD] at hj; omega))).2) (fun u hu => lss_one (L.drop i) u hu)
  have HM3 := HM2.drew.sets (lsS (L.drop i)) ((i + 1) * 3) _ _
  have hfin : setL (setL (lsS (L.take i) ++ Y) (i * 3) (lsC x)) ((i + 1) * 3) (lsS (L.drop i)) = lsS (L.take i ++ [x] ++ L.drop i) := by
    rw [hmid]
    have k := setL_mid (lsS (L.take i)) Y (lsC x) (lsS (L.drop i)) hYl
    rw [hA, lsC_len, show i * 3 + 3 = (i + 1) * 3 by omega] at k
    exact k
  rw [hfin, hW2, hW1] at HM3
  have HF := Shut.mk HM3
  have HRZ := Shut.mk hrz
  have HA := Shut.mk hcpA
  have HB := Shut.mk hcpB
  subst hW2
  subst hW1
  have hE1 : ∀ q, ((W.alloc (.cells ROW 35)).drew).cell? q = (W.drew.alloc (.cells ROW 35)).cell? q := fun q => rfl
  have hE2 : ∀ q, ((W.alloc (.cells ROW 35)).drew).frozen? q = (W.drew.alloc (.cells ROW 35)).frozen? q := fun q => rfl
  have hF1 : ∀ q, (((W.alloc (.cells ROW 35)).drew.setCells W.heap.size (i * 3) (lsC x)).drew).cell? q = ((W.drew.alloc (.cells ROW 35)).setCells W.heap.size (i * 3) (lsC x)).cell? q := fun q => rfl
  have hF2 : ∀ q, (((W.alloc (.cells ROW 35)).drew.setCells W.heap.size (i * 3) (lsC x)).drew).frozen? q = ((W.drew.alloc (.cells ROW 35)).setCells W.heap.size (i * 3) (lsC x)).frozen? q := fun q => rfl
  have h1 : (i : Int) ≤ (n : Int) := by omega
  have h2 : ¬ ((i : Int) = (n : Int)) := by omega
  have h2' : ((i : Int) == (n : Int)) = false := by simp; omega
  have h3 : (c : Int) < (n : Int) + 1 := by omega
  have h4 : ¬ (c = i) := by omega
  have h5 : ¬ (G = i) := by omega
  have h6 : ¬ (G = i + 1) := by omega
  have h7 : (i : Int) ≤ (c : Int) := by omega
  have h8 : (i : Int) ≤ (n : Int) + 1 := by omega
  have h9 : (i : Int) + 1 ≤ (n : Int) + 1 := by omega
  have h10 : ((i : Int) + 1).toNat = i + 1 := by omega
  have h11 : (0 : Int) ≤ (i : Int) + 1 := by omega
  have hGi : (n : Int) + 1 ≤ (G : Int) := by omega
  have mixed : Try.prog.follows .mixedOrders = true := by kernel_rfl
  have hwr : IntKind.i64.wrap ((i : Int) + 1) = (i : Int) + 1 := by rw [IntWalk.i64_in _ ⟨by omega, by omega⟩]
  clear h HM HM2 HM3 hrz hcpA hcpB hold hROW hG hX hY hfin hRs hGm hw1 hw2 hOld hone hfl hXl hX2 hYl hcut hmid hA hD hsz hin hz0 hzs hz2 hd9 hnl hcn
  go_enter Try.func60, Try.ntmps60
  have hA9 := HA.out _ hE1 hE2
  go_wp2_with (at_builtin; refine Lib.wpList_append_run _ rfl _ _ _ _ rfl _ _ rfl rfl _ _ (HRZ.out _) ?_)
  go_region_law_o (refine step_copy_runI rfl _ _ 24 24 rfl (.slice (some ⟨W.heap.size, (i + 1) * 3, none⟩) (n + 1 - (i + 1)) (G - (i + 1))) (.slice (some ⟨g, i * 3, none⟩) (n - i) (c - i)) (by simp [Act.eval, Act.put]) (by simp [Act.eval, Act.put]) (HB.out _ hF1 hF2 3 (G - (i + 1)) (c - i)) ?_)
  go_wp2_with fail
  go_ret
  exact ⟨_, rfl, HF.out⟩
set_option maxRecDepth 100000 in
set_option maxHeartbeats 4000000 in
/-- Within, where there is room: in place. -/
theorem insertRoom {w0 W : World} {S : List Str} {n c vb i g : Nat} {L : List LsM} {x : LsM} (h : OwS w0 W (bxS vb (lsC x) :: S) 35 3 (.slice (some ⟨g, 0, none⟩) n c) n (lsS L)) (hvb : W.heap[vb]? = some (.cells (lsC x).toArray 35 (0, 0))) (hnl : n = L.length) (hl : n ≤ 1048576) (hi : i < n) (hcn : n + 1 ≤ c) :
    Calls Try.prog 60 #[.slice (some ⟨g, 0, none⟩) n c, .int .i64 (i : Nat), .slice (some ⟨vb, 0, none⟩) 1 1] W fun e W' => ∃ v', e = .returned v' ∧ OwS w0 W' (bxS vb (lsC x) :: S) 35 3 v' (n + 1) (lsS (L.take i ++ [x] ++ L.drop i)) := by
  obtain ⟨i0, hin, hz0, hzs, hz2⟩ := info_parts infoLease
  have hsz : (Try.prog.info? 35).map (·.size) = some 3 := by rw [hin]; simp [hzs]
  have hA : (lsS (L.take i)).length = i * 3 := by rw [lsS_len, List.length_take]; omega
  have hD : (lsS (L.drop i)).length = (n - i) * 3 := by rw [lsS_len, List.length_drop]; omega
  have hcut := ls_cut L i
  have hmid := ls_mid L i x
  obtain ⟨cur, hgh, hcs, hcm⟩ := h.heap
  have hne : vb ≠ g := by
    have := h.far g rfl _ (List.mem_cons_self ..)
    dsimp only [bxS] at this
    omega
  obtain ⟨R, HL, hlen⟩ := h.longer (Nat.le_succ n) hcn
  have hRl : R.length = 3 := by rw [List.length_append, lsS_len] at hlen; omega
  rw [hcut, List.append_assoc] at HL hlen
  have HL' := HL.drew
  have hfl := own_wcells HL'.own
  have hone : ∀ u ∈ lsC x, u.oneCell' = true := fun u hu => lss_one [x] u (by simpa [lsS] using hu)
  have hov : ∀ lb cb, (callFunc 72 #[.slice (some ⟨vb, 0, none⟩) 1 1, .slice (some ⟨g, (i + 1) * 3, none⟩) lb cb]).run Try.prog W = .ok (.value (.bool false)) W := fun lb cb => by
    rw [Go.run_callFunc_extern Try.func72 (by kernel_rfl) (by kernel_rfl) (by kernel_rfl) (e := Extern.SlicesOverlaps.overlaps #[24, 24] #[4]) (by kernel_rfl),
      Lib.run_overlaps_apart W 24 4 35 Try.underlying24 3 Try.sizeOf35 ⟨vb, 0, none⟩ ⟨g, (i + 1) * 3, none⟩ 1 1 lb cb hne 35 35 3 (c * 3) (by simp [World.shape?, hvb, lsC]) (by simp [World.shape?, hgh, hcs]) (by omega) (by simp [World.frozen?, hvb]) (by simp [World.frozen?, hvb])]
    rfl
  have hcp1 : ∀ ty dc sc, (Builtin.copy_ #[24, 24] ty #[.slice (some ⟨g, (i + 1) * 3, none⟩) (n + 1 - (i + 1)) dc, .slice (some ⟨g, i * 3, none⟩) (n + 1 - i) sc]).run Try.prog W.drew = .ok (goInt (n - i : Nat)) (W.drew.setCells g ((i + 1) * 3) (lsS (L.drop i))) := fun ty dc sc =>
    run_copy_any9 (P := Try.prog) W.drew _ _ ty 35 3 (n - i) g ((i + 1) * 3) (n + 1 - (i + 1)) dc ⟨g, i * 3, none⟩ (n + 1 - i) sc (lsS (L.drop i)) Try.underlying24 hsz (by simp only [Nat.min_def]; split <;> omega) hD
      (fun j v hj => by
        have hlt := (List.getElem?_eq_some_iff.1 hj).1
        rw [show (⟨g, i * 3, none⟩ : Addr).add j = ⟨g, i * 3 + j, none⟩ by cases j <;> simp [Addr.add]]
        exact (hfl.2 (i * 3 + j) v (by rw [List.getElem?_append_right (by rw [hA]; omega), hA, Nat.add_sub_cancel_left, List.getElem?_append_left hlt]; exact hj)).1)
      (fun j hj => by
        have := (hfl.2 ((i + 1) * 3 + j) _ (List.getElem?_eq_getElem (by rw [hlen]; rw [hD] at hj; omega))).1
        rw [this]; rfl)
      (fun j hj => (hfl.2 ((i + 1) * 3 + j) _ (List.getElem?_eq_getElem (by rw [hlen]; rw [hD] at hj; omega))).2) (fun u hu => lss_one (L.drop i) u hu)
  have HM2 := HL'.sets (lsS (L.drop i)) ((i + 1) * 3) _ _
  obtain ⟨W1, hW1⟩ : ∃ W1, W1 = W.drew.setCells g ((i + 1) * 3) (lsS (L.drop i)) := ⟨_, rfl⟩
  rw [← hW1] at HM2 hcp1
  have hw2 := own_wcells HM2.own
  have hX2 : (setL (lsS (L.take i) ++ (lsS (L.drop i) ++ R)) ((i + 1) * 3) (lsS (L.drop i))).length = (n + 1) * 3 := by rw [setL_len, hlen]
  have hcp2 : ∀ ty dc, (Builtin.copy_ #[24, 24] ty #[.slice (some ⟨g, i * 3, none⟩) (n + 1 - i) dc, .slice (some ⟨vb, 0, none⟩) 1 1]).run Try.prog W1 = .ok (goInt (1 : Nat)) (W1.setCells g (i * 3) (lsC x)) := fun ty dc =>
    run_copy_any9 (P := Try.prog) W1 _ _ ty 35 3 1 g (i * 3) (n + 1 - i) dc ⟨vb, 0, none⟩ 1 1 (lsC x) Try.underlying24 hsz (by simp only [Nat.min_def]; split <;> omega) rfl
      (fun j v hj => by
        rw [show (⟨vb, 0, none⟩ : Addr).add j = ⟨vb, j, none⟩ by cases j <;> simp [Addr.add]]
        exact (HM2.sl.bx 0 rfl j v hj).1)
      (fun j hj => by
        have := (hw2.2 (i * 3 + j) _ (List.getElem?_eq_getElem (by rw [hX2]; rw [lsC_len] at hj; omega))).1
        rw [this]; rfl)
      (fun j hj => (hw2.2 (i * 3 + j) _ (List.getElem?_eq_getElem (by rw [hX2]; rw [lsC_len] at hj; omega))).2) hone
  have HM3 := HM2.sets (lsC x) (i * 3) _ _
  have hfin : setL (setL (lsS (L.take i) ++ (lsS (L.drop i) ++ R)) ((i + 1) * 3) (lsS (L.drop i))) (i * 3) (lsC x) = lsS (L.take i ++ [x] ++ L.drop i) := by
    rw [hmid]
    have k := setL_mid2 (lsS (L.take i)) (lsS (L.drop i) ++ R) (lsC x) (lsS (L.drop i)) (by rw [List.length_append, hRl, lsC_len]; omega)
    rw [hA, lsC_len, show i * 3 + 3 = (i + 1) * 3 by omega] at k
    exact k
  rw [hfin] at HM3
  subst hW1
  have HF := Shut.mk HM3
  have HC1 := Shut.mk hcp1
  have h1 : (i : Int) ≤ (n : Int) := by omega
  have h2 : ¬ ((i : Int) = (n : Int)) := by omega
  have h2' : ((i : Int) == (n : Int)) = false := by simp; omega
  have h3 : ¬ (c : Int) < (n : Int) + 1 := by omega
  have h4 : ¬ (c = i) := by omega
  have h6 : ¬ (c = i + 1) := by omega
  have h7 : (i : Int) ≤ (c : Int) := by omega
  have h8 : (i : Int) ≤ (n : Int) + 1 := by omega
  have h9 : (i : Int) + 1 ≤ (n : Int) + 1 := by omega
  have h10 : ((i : Int) + 1).toNat = i + 1 := by omega
  have h11 : (0 : Int) ≤ (i : Int) + 1 := by omega
  have h12 : (n : Int) + 1 ≤ (c : Int) := by omega
  have hcl2 : c ≤ 9223372036854775807 := hcm
  have mixed : Try.prog.follows .mixedOrders = true := by kernel_rfl
  have hwr : IntKind.i64.wrap ((i : Int) + 1) = (i : Int) + 1 := by rw [IntWalk.i64_in _ ⟨by omega, by omega⟩]
  clear h HL HL' HM2 HM3 hcp1 hw2 hone hfl hX2 hcut hmid hA hD hsz hin hz0 hzs hz2 hnl hgh hcs hcm hlen hRl hfin hvb hne
  go_enter Try.func60, Try.ntmps60
  go_wp2_with (simp only [hov])
  go_region_law_o (refine step_copy_runI rfl _ _ 24 24 rfl (.slice (some ⟨g, (i + 1) * 3, none⟩) (n + 1 - (i + 1)) (c - (i + 1))) (.slice (some ⟨g, i * 3, none⟩) (n + 1 - i) (c - i)) (by simp [Act.eval, Act.put]) (by simp [Act.eval, Act.put]) (HC1.out 3 (c - (i + 1)) (c - i)) ?_)
  go_wp2_with fail
  go_ret
  exact ⟨_, rfl, HF.out⟩
/-- Anywhere. -/
theorem insertLease {w0 W : World} {S : List Str} {n c vb i : Nat} {av : Option Addr} {L : List LsM} {x : LsM} (h : OwS w0 W (bxS vb (lsC x) :: S) 35 3 (.slice av n c) n (lsS L)) (hvb : W.heap[vb]? = some (.cells (lsC x).toArray 35 (0, 0))) (hnl : n = L.length) (hl : n ≤ 1048576) (hi : i ≤ n) :
    Calls Try.prog 60 #[.slice av n c, .int .i64 (i : Nat), .slice (some ⟨vb, 0, none⟩) 1 1] W fun e W' => ∃ v', e = .returned v' ∧ OwS w0 W' (bxS vb (lsC x) :: S) 35 3 v' (n + 1) (lsS (L.take i ++ [x] ++ L.drop i)) := by
  by_cases hin : i = n
  · subst hin
    rw [List.take_of_length_le (by omega), List.drop_of_length_le (by omega), List.append_nil]
    exact insertEnd h hl
  · have hg : ∃ g, av = some ⟨g, 0, none⟩ := by
      rcases h.own.2 with ⟨e, e2⟩ | ⟨g, cap', cur, e, _⟩
      · omega
      · cases e; exact ⟨g, rfl⟩
    obtain ⟨g, rfl⟩ := hg
    have hnc : n ≤ c := (FRw.of_own h.own).2
    by_cases hc : n + 1 ≤ c
    · exact insertRoom h hvb hnl hl (by omega) hc
    · exact insertGrow h hnl hl (by omega) (by omega)
end Go.Proofs.Ytcnjjbgilpgceaa
/- GrwC: A region that draws its order and ends in stores: all that comes ahead of its last operations is taken as in a region that only makes memory; then the last ones, in whatever order. -/
namespace Go.Proofs.Ytcnjjbgilpgceaa
set_option maxRecDepth 100000
open Go.RowKit
section
variable {P : Program} {ops : Array Oper} {Q : Exit → Act → World → Prop} {md : Region.Mode} {m : Nat}
/-- Only operations from number m on are left. -/
def tailed (m : Nat) (ops : Array Oper) (l : Array Bool) : Bool := (List.range m).all fun j => l.getD j true || decide (ops.size ≤ j)
theorem tailed_spec {l : Array Bool} (h : tailed m ops l = true) {j : Nat} (hj : l.getD j true = false) (hs : j < ops.size) : m ≤ j := by
  refine Nat.le_of_not_lt fun hlt => ?_
  have := List.all_eq_true.1 h j (by simpa using hlt)
  rw [hj, Bool.false_or, decide_eq_true_eq] at this
  omega
/-- Whatever order is picked from here on, in whatever later world, until only the last ones are left. -/
def wpK (P : Program) (md : Region.Mode) (ops : Array Oper) (Q : Exit → Act → World → Prop) (m : Nat) : Nat → Array Bool → Act → World → Prop
  | 0, l, a, w => ∀ x, Later w x → wpAny P md ops Q 0 l a x
  | n + 1, l, a, w => (tailed m ops l = true ∧ ∀ x, Later w x → wpAny P md ops Q (n + 1) l a x) ∨ (∀ x, Later w x → (Region.ready md ops l = [] → Q .normal a x) ∧
      ∀ i ∈ Region.ready md ops l, wpOp P ops Q i (fun a' y => Later x y ∧ wpK P md ops Q m n (l.setIfInBounds i true) a' y) a x)
theorem wpK_later : ∀ (n : Nat) (l : Array Bool) (a : Act) (w y : World), Later w y → wpK P md ops Q m n l a w → wpK P md ops Q m n l a y
  | 0, _, _, _, _, hy, h => fun x hx => h x (hy.trans hx)
  | _ + 1, _, _, _, _, hy, h => h.imp (fun q => ⟨q.1, fun x hx => q.2 x (hy.trans hx)⟩) (fun q x hx => q x (hy.trans hx))
theorem wpAny_of_K : ∀ (n : Nat) (l : Array Bool) (a : Act) (w : World), wpK P md ops Q m n l a w → wpAny P md ops Q n l a w
  | 0, _, _, w, h => h w (Later.refl w)
  | n + 1, _, _, w, h => by
    rcases h with h | h
    · exact h.2 w (Later.refl w)
    · exact ⟨(h w (Later.refl w)).1, fun i hi => wpOp_mono (fun a' y hh => wpAny_of_K n _ a' y hh.2) ((h w (Later.refl w)).2 i hi)⟩
/-- Those that wait for number i, or for one of them. -/
def clo (md : Region.Mode) (ops : Array Oper) (l : Array Bool) (i : Nat) : List Nat := (List.range ops.size).foldl (fun acc f => if !(l.getD f true) && (((ops[f]?).map fun o => o.after.any fun e => Region.binds md e && ((e.on == i) || acc.contains e.on)) == some true) then f :: acc else acc) []
/-- The last ones that are left wait for number i. -/
def waits (md : Region.Mode) (m : Nat) (ops : Array Oper) (l : Array Bool) (i : Nat) (C : List Nat) : Bool :=
  (C.all fun c => !(l.getD c true) && (((ops[c]?).map fun o => o.after.any fun e => Region.binds md e && ((e.on == i) || C.contains e.on)) == some true)) && ((List.range ops.size).all fun f => decide (f < m) || l.getD f true || C.contains f)
theorem getD_clash {l : Array Bool} {k : Nat} (h1 : l.getD k true = false) (h2 : l.getD k false = true) : False := by
  unfold Array.getD at h1 h2
  split at h1
  · rename_i h
    rw [dif_pos h] at h2
    rw [h1] at h2
    cases h2
  · cases h1
theorem waits_spec {l : Array Bool} {i : Nat} {C : List Nat} (h : waits md m ops l i C = true) (hi : l.getD i true = false) : ∀ c ∈ C, c ∉ Region.ready md ops l := by
  unfold waits at h
  rw [Bool.and_eq_true] at h
  intro c hc hr
  have h1 := List.all_eq_true.1 h.1 c hc
  rw [Bool.and_eq_true] at h1
  obtain ⟨-, o, ho, hall⟩ := mem_ready.1 hr
  rw [ho] at h1
  simp only [Option.map_some, beq_iff_eq, Option.some.injEq] at h1
  have h2 := h1.2
  rw [Array.any_eq_true'] at h2
  obtain ⟨e, he, q⟩ := h2
  rw [Bool.and_eq_true, Bool.or_eq_true] at q
  have hd := hall e he q.1
  rcases q.2 with q2 | q2
  · rw [beq_iff_eq] at q2
    rw [q2] at hd
    exact getD_clash hi hd
  · have hm : e.on ∈ C := by simpa using q2
    have h3 := List.all_eq_true.1 h.1 _ hm
    rw [Bool.and_eq_true, Bool.not_eq_true'] at h3
    exact getD_clash h3.1 hd
theorem waits_last {l : Array Bool} {i f : Nat} {C : List Nat} (h : waits md m ops l i C = true) (hf : m ≤ f) (hu : l.getD f true = false) (hs : f < ops.size) : f ∈ C := by
  unfold waits at h
  rw [Bool.and_eq_true] at h
  have := List.all_eq_true.1 h.2 f (by simpa using hs)
  rw [hu, Bool.or_false, Bool.or_eq_true, decide_eq_true_eq] at this
  rcases this with q | q
  · omega
  · simpa using q
theorem waits_step {l : Array Bool} {i j : Nat} {C : List Nat} (h : waits md m ops l i C = true) (hj : j ∉ C) : waits md m ops (l.setIfInBounds j true) i C = true := by
  unfold waits at h ⊢
  rw [Bool.and_eq_true] at h ⊢
  refine ⟨List.all_eq_true.2 fun c hc => ?_, List.all_eq_true.2 fun f hf => ?_⟩
  · have h1 := List.all_eq_true.1 h.1 c hc
    have hcj : j ≠ c := fun e => hj (e ▸ hc)
    rw [getD_set_ne true hcj]
    exact h1
  · have h1 := List.all_eq_true.1 h.2 f hf
    by_cases e : j = f
    · subst e
      have : (l.setIfInBounds j true).getD j true = true := by
        simp only [Array.getD]
        split
        · simp
        · rfl
      rw [this]
      simp
    · rw [getD_set_ne true e]
      exact h1
theorem wpK_first {i : Nat} {oi : Oper} {v : Value} {C : List Nat} (hi : ops[i]? = some oi) (hsel : ∀ (j : Nat) (o : Oper) cs b, ops[j]? = some o → o.op ≠ .select cs b) (hQ : ∀ c a w, Q (.panic c) (a.put oi.dst v) w → Q (.panic c) a w) :
    ∀ (n : Nat) (l : Array Bool) (a : Act) (w : World), waits md m ops l i C = true → (∀ j oj, ops[j]? = some oj → j ≠ i → l.getD j true = false → (∀ e ∈ oj.after, Region.binds md e = true → e.on ≠ i) → oi.apart ops oj = true) →
      i ∈ Region.ready md ops l → YL P ops oi v a w → wpK P md ops Q m n (l.setIfInBounds i true) (a.put oi.dst v) w → wpK P md ops Q m (n + 1) l a w := by
  intro n
  induction n with
  | zero =>
    intro l a w _ _ hr hy H
    refine .inr fun x hx => ⟨fun h => (by rw [h] at hr; cases hr), fun j hj => ?_⟩
    by_cases hji : j = i
    · subst hji
      exact hy.op hi hx fun y hxy => ⟨hxy, wpK_later 0 _ _ _ _ (hx.trans hxy) H⟩
    · have q := ready_mono hj hji
      rw [(H w (Later.refl w)).1] at q
      cases q
  | succ n ih =>
    intro l a w hwt hfree hr hy H
    refine .inr fun x hx => ⟨fun h => (by rw [h] at hr; cases hr), fun j hj => ?_⟩
    by_cases hji : j = i
    · subst hji
      exact hy.op hi hx fun y hxy => ⟨hxy, wpK_later (n + 1) _ _ _ _ (hx.trans hxy) H⟩
    · obtain ⟨hun, oj, hoj, -⟩ := mem_ready.1 hj
      have hjC : j ∉ C := fun hc => waits_spec hwt (mem_ready.1 hr).1 j hc hj
      rcases H with H | H
      · have hju : (l.setIfInBounds i true).getD j true = false := by rw [getD_set_ne true (Ne.symm hji)]; exact hun
        have hjs := (Array.getElem?_eq_some_iff.1 hoj).1
        have hjm := tailed_spec H.1 hju hjs
        exact absurd (waits_last hwt hjm hun hjs) hjC
      · have q := op_beside hoj (hfree j oj hoj hji hun (ready_free hr hj hoj)) (fun cs b => hsel i oi cs b hi) (fun cs b => hsel j oj cs b hoj) hQ hy ((H x hx).2 j (ready_mono hj hji))
        refine wpOp_mono (fun b y hb => ⟨hb.2.1, ih (l.setIfInBounds j true) b y (waits_step hwt hjC) (fun k ok hk hki hku hno => hfree k ok hk hki ?_ hno) (ready_mono hr (Ne.symm hji)) (hb.1.later (hx.trans hb.2.1)) ?_⟩) q
        · by_cases hjk : j = k
          · subst hjk; exact hun
          · rw [getD_set_ne true hjk] at hku; exact hku
        · rw [Array.setIfInBounds_comm _ _ hji]
          exact hb.2.2
theorem wpK_tail {l : Array Bool} {a : Act} {w : World} (ht : tailed m ops l = true) : ∀ {n : Nat}, (∀ x, Later w x → wpAny P md ops Q n l a x) → wpK P md ops Q m n l a w
  | 0, h => h
  | _ + 1, h => .inl ⟨ht, h⟩
theorem wpK_done {l : Array Bool} {a : Act} {w : World} (hr : Region.ready md ops l = []) (h : ∀ x, Later w x → Q .normal a x) : ∀ n, wpK P md ops Q m n l a w
  | 0 => fun x hx => ⟨hr, h x hx⟩
  | _ + 1 => .inr fun x hx => ⟨fun _ => h x hx, by rw [hr]; simp⟩
theorem wp_region_tail {id : Nat} {a : Act} {w : World} (m : Nat) (hm : P.follows .mixedOrders = true) (h : wpK P .any ops Q m ops.size (Array.replicate ops.size false) a w.drew) : (Code.region id ops true).wp P Q a w :=
  wp_region_any hm (wpAny_of_K _ _ _ _ h)
end
section
variable {P : Program} {Q : Exit → Act → World → Prop} {md : Region.Mode} {m : Nat}
/-- Take number i: a value. -/
theorem wpK_val {L r : List Oper} {i : Nat} {oi : Oper} {v : Value} {n : Nat} {l : Array Bool} {a : Act} {w : World} (hi : L.drop i = oi :: r) (hs : Region.noSelect L.toArray = true) (hf : Region.free md L.toArray l i = true) (hr : (Region.ready md L.toArray l).contains i = true) (ht : waits md m L.toArray l i (clo md L.toArray l i) = true)
    (hQ : ∀ c a w, Q (.panic c) (a.put oi.dst v) w → Q (.panic c) a w) (hw : Region.wanted oi (yielded L.toArray a.tmps) = true) (hy : ∀ x, Later w x → (execOp a.eval oi).run P x = .ok (.value v) x)
    (h : wpK P md L.toArray Q m n (l.setIfInBounds i true) (a.put oi.dst v) w) : wpK P md L.toArray Q m (n + 1) l a w :=
  wpK_first (at_drop hi) (Region.noSelect_spec hs) hQ n l a w ht (Region.free_spec (at_drop hi) hf) (by simpa using hr) (Or.inl ⟨hw, fun x hx => by unfold Oper.quietAt; rw [hy x hx]; exact ⟨rfl, rfl⟩⟩) h
/-- Take number i: a call. -/
theorem wpK_call {L r : List Oper} {i : Nat} {oi : Oper} {v : Value} {f : FuncId} {args : Array Value} {n : Nat} {l : Array Bool} {a : Act} {w : World} (hi : L.drop i = oi :: r) (hs : Region.noSelect L.toArray = true) (hf : Region.free md L.toArray l i = true) (hr : (Region.ready md L.toArray l).contains i = true) (ht : waits md m L.toArray l i (clo md L.toArray l i) = true)
    (hQ : ∀ c a w, Q (.panic c) (a.put oi.dst v) w → Q (.panic c) a w) (hw : Region.wanted oi (yielded L.toArray a.tmps) = true) (hy : ∀ x, Later w x → (execOp a.eval oi).run P x = .ok (.enter f args) x)
    (hc : ∀ x, Later w x → Calls P f args x fun e y => e = .returned v ∧ Below x.heap.size x y)
    (h : wpK P md L.toArray Q m n (l.setIfInBounds i true) (a.put oi.dst v) w) : wpK P md L.toArray Q m (n + 1) l a w :=
  wpK_first (at_drop hi) (Region.noSelect_spec hs) hQ n l a w ht (Region.free_spec (at_drop hi) hf) (by simpa using hr) (Or.inl ⟨hw, fun x hx => by unfold Oper.quietAt; rw [hy x hx]; exact ⟨rfl, hc x hx⟩⟩) h
/-- Take number i: it is not wanted. -/
theorem wpK_skip {L r : List Oper} {i : Nat} {oi : Oper} {n : Nat} {l : Array Bool} {a : Act} {w : World} (hi : L.drop i = oi :: r) (hs : Region.noSelect L.toArray = true) (hf : Region.free md L.toArray l i = true) (hr : (Region.ready md L.toArray l).contains i = true) (ht : waits md m L.toArray l i (clo md L.toArray l i) = true)
    (hQ : ∀ c a w, Q (.panic c) (a.put oi.dst undef) w → Q (.panic c) a w) (hw : Region.wanted oi (yielded L.toArray a.tmps) = false)
    (h : wpK P md L.toArray Q m n (l.setIfInBounds i true) (a.put oi.dst undef) w) : wpK P md L.toArray Q m (n + 1) l a w :=
  wpK_first (at_drop hi) (Region.noSelect_spec hs) hQ n l a w ht (Region.free_spec (at_drop hi) hf) (by simpa using hr) (Or.inr ⟨hw, rfl⟩) h
/-- One alone may come up, and answers a value; memory may be made. -/
theorem wpK_one {L r : List Oper} {i : Nat} {oi : Oper} {n : Nat} {l : Array Bool} {a : Act} {w : World} (hr : Region.ready md L.toArray l = [i]) (hi : L.drop i = oi :: r) (hw : Region.wanted oi (yielded L.toArray a.tmps) = true)
    (h : ∀ x, Later w x → ∃ (v : Value) (y : World), (execOp a.eval oi).run P x = .ok (.value v) y ∧ Later x y ∧ wpK P md L.toArray Q m n (l.setIfInBounds i true) (a.put oi.dst v) y) : wpK P md L.toArray Q m (n + 1) l a w := by
  refine .inr fun x hx => ?_
  rw [hr]
  refine ⟨fun h => (by cases h), fun j hj => ?_⟩
  rw [List.mem_singleton] at hj
  subst hj
  obtain ⟨v, y, h1, h2, h3⟩ := h x hx
  unfold wpOp
  rw [at_drop hi]
  dsimp only
  rw [if_pos hw]
  refine Or.inl ?_
  unfold Oper.wp
  rw [h1]
  exact ⟨h2, h3⟩
/-- One alone may come up: a call that answers what it likes and only makes memory. -/
theorem wpK_onecall {L r : List Oper} {i : Nat} {oi : Oper} {f : FuncId} {args : Array Value} {n : Nat} {l : Array Bool} {a : Act} {w : World} (hr : Region.ready md L.toArray l = [i]) (hi : L.drop i = oi :: r) (hw : Region.wanted oi (yielded L.toArray a.tmps) = true)
    (hy : ∀ x, Later w x → (execOp a.eval oi).run P x = .ok (.enter f args) x)
    (h : ∀ x, Later w x → Calls P f args x fun e y => ∃ v, e = .returned v ∧ Below x.heap.size x y ∧ wpK P md L.toArray Q m n (l.setIfInBounds i true) (a.put oi.dst v) y) : wpK P md L.toArray Q m (n + 1) l a w := by
  refine .inr fun x hx => ?_
  rw [hr]
  refine ⟨fun h => (by cases h), fun j hj => ?_⟩
  rw [List.mem_singleton] at hj
  subst hj
  unfold wpOp
  rw [at_drop hi]
  dsimp only
  rw [if_pos hw]
  refine Or.inl ?_
  unfold Oper.wp
  rw [hy x hx]
  exact (h x hx).mono (by rintro e y ⟨v, rfl, h1, h2⟩; exact ⟨h1, h2⟩)
/-- A call and the making of a box may come up, in either order. -/
theorem wpK_callbox {L r r' : List Oper} {i j : Nat} {oi oj : Oper} {f : FuncId} {args : Array Value} {n : Nat} {l : Array Bool} {a : Act} {w : World} {C : Array Value} {t : TypeId}
    (hr : Region.ready md L.toArray l = [i, j]) (hi : L.drop i = oi :: r) (hj : L.drop j = oj :: r') (hw : Region.wanted oi (yielded L.toArray a.tmps) = true) (hwj : Region.wanted oj (yielded L.toArray a.tmps) = true)
    (hy : ∀ x, Later w x → (execOp a.eval oi).run P x = .ok (.enter f args) x) (hz : ∀ x, Later w x → (execOp a.eval oj).run P x = .ok (.value (.pointer (some ⟨x.heap.size, 0, none⟩))) (x.alloc (.cells C t)))
    (h1 : ∀ x, Later w x → Calls P f args x fun e y => ∃ v, e = .returned v ∧ Below x.heap.size x y ∧ wpK P md L.toArray Q m n (l.setIfInBounds i true) (a.put oi.dst v) y)
    (h2 : ∀ x, Later w x → wpK P md L.toArray Q m n (l.setIfInBounds j true) (a.put oj.dst (.pointer (some ⟨x.heap.size, 0, none⟩))) (x.alloc (.cells C t))) : wpK P md L.toArray Q m (n + 1) l a w := by
  refine .inr fun x hx => ?_
  rw [hr]
  refine ⟨fun h => (by cases h), fun k hk => ?_⟩
  rw [List.mem_cons, List.mem_singleton] at hk
  unfold wpOp
  rcases hk with rfl | rfl
  · rw [at_drop hi]
    dsimp only
    rw [if_pos hw]
    refine Or.inl ?_
    unfold Oper.wp
    rw [hy x hx]
    exact (h1 x hx).mono (by rintro e y ⟨v, rfl, q1, q2⟩; exact ⟨q1, q2⟩)
  · rw [at_drop hj]
    dsimp only
    rw [if_pos hwj]
    refine Or.inl ?_
    unfold Oper.wp
    rw [hz x hx]
    exact ⟨(Below.refl _ _).alloc (Nat.le_refl _) _, h2 x hx⟩
/-- The last ones: a value that holds in every world is taken first. -/
theorem wpA_first {ops : Array Oper} {i : Nat} {oi : Oper} {v : Value} (hi : ops[i]? = some oi) (hsel : ∀ (j : Nat) (o : Oper) cs b, ops[j]? = some o → o.op ≠ .select cs b) (hQ : ∀ c a w, Q (.panic c) (a.put oi.dst v) w → Q (.panic c) a w) :
    ∀ (n : Nat) (l : Array Bool) (a : Act) (w : World), (∀ j oj, ops[j]? = some oj → j ≠ i → l.getD j true = false → (∀ e ∈ oj.after, Region.binds md e = true → e.on ≠ i) → oi.apart ops oj = true) →
      i ∈ Region.ready md ops l → Region.wanted oi (yielded ops a.tmps) = true → (∀ x, (execOp a.eval oi).run P x = .ok (.value v) x) → wpAny P md ops Q n (l.setIfInBounds i true) (a.put oi.dst v) w → wpAny P md ops Q (n + 1) l a w := by
  intro n
  induction n with
  | zero =>
    intro l a w _ hr hw hy H
    refine ⟨fun h => (by rw [h] at hr; cases hr), fun j hj => ?_⟩
    by_cases hji : j = i
    · subst hji
      unfold wpOp
      rw [hi]
      dsimp only
      rw [if_pos hw]
      refine Or.inl ?_
      unfold Oper.wp
      rw [hy w]
      exact H
    · have q := ready_mono hj hji
      rw [H.1] at q
      cases q
  | succ n ih =>
    intro l a w hfree hr hw hy H
    refine ⟨fun h => (by rw [h] at hr; cases hr), fun j hj => ?_⟩
    by_cases hji : j = i
    · subst hji
      unfold wpOp
      rw [hi]
      dsimp only
      rw [if_pos hw]
      refine Or.inl ?_
      unfold Oper.wp
      rw [hy w]
      exact H
    · obtain ⟨hun, oj, hoj, -⟩ := mem_ready.1 hj
      have hap := hfree j oj hoj hji hun (ready_free hr hj hoj)
      have h3 := (Oper.apart_spec hap).2.2
      have q := op_frame hoj (wpOp_putIf (S := fun _ => False) hoj hap (fun cs b => hsel i oi cs b hi) (fun cs b => hsel j oj cs b hoj) hQ (Or.inl ⟨hw, fun _ hf => hf.elim⟩) (H.2 j (ready_mono hj hji)))
      refine wpOp_mono ?_ q
      have step : ∀ (b : Act) (y : World), execOp b.eval oi = execOp a.eval oi → Region.wanted oi (yielded ops b.tmps) = Region.wanted oi (yielded ops a.tmps) → wpAny P md ops Q n ((l.setIfInBounds i true).setIfInBounds j true) (b.put oi.dst v) y → wpAny P md ops Q (n + 1) (l.setIfInBounds j true) b y := fun b y e1 e2 hk => by
        refine ih (l.setIfInBounds j true) b y (fun k ok hk hki hku hno => hfree k ok hk hki ?_ hno) (ready_mono hr (Ne.symm hji)) (by rw [e2]; exact hw) (fun x => by rw [e1]; exact hy x) ?_
        · by_cases hjk : j = k
          · subst hjk; exact hun
          · rw [getD_set_ne true hjk] at hku; exact hku
        · rw [Array.setIfInBounds_comm _ _ hji]
          exact hk
      rintro b y ⟨⟨u, rfl | ⟨f, rfl⟩⟩, -, hk⟩
      · exact step _ _ (execOp_put oi (fun cs b => hsel i oi cs b hi) a oj.dst u h3) (wanted_put oi a oj.dst u h3) hk
      · exact step _ _ (execOp_put oi (fun cs b => hsel i oi cs b hi) { a with defers := f :: a.defers } oj.dst u h3) (wanted_put oi { a with defers := f :: a.defers } oj.dst u h3) hk
theorem wpA_val {L r : List Oper} {i : Nat} {oi : Oper} {v : Value} {n : Nat} {l : Array Bool} {a : Act} {w : World} (hi : L.drop i = oi :: r) (hs : Region.noSelect L.toArray = true) (hf : Region.free md L.toArray l i = true) (hr : (Region.ready md L.toArray l).contains i = true)
    (hQ : ∀ c a w, Q (.panic c) (a.put oi.dst v) w → Q (.panic c) a w) (hw : Region.wanted oi (yielded L.toArray a.tmps) = true) (hy : ∀ x, (execOp a.eval oi).run P x = .ok (.value v) x)
    (h : wpAny P md L.toArray Q n (l.setIfInBounds i true) (a.put oi.dst v) w) : wpAny P md L.toArray Q (n + 1) l a w :=
  wpA_first (at_drop hi) (Region.noSelect_spec hs) hQ n l a w (Region.free_spec (at_drop hi) hf) (by simpa using hr) hw hy h
/-- The last one: a call. -/
theorem wpA_call {L r : List Oper} {i : Nat} {oi : Oper} {f : FuncId} {args : Array Value} {n : Nat} {l : Array Bool} {a : Act} {w : World} (hr : Region.ready md L.toArray l = [i]) (hi : L.drop i = oi :: r) (hw : Region.wanted oi (yielded L.toArray a.tmps) = true) (hy : (execOp a.eval oi).run P w = .ok (.enter f args) w)
    (hd : Region.ready md L.toArray (l.setIfInBounds i true) = []) (h : Calls P f args w fun e y => ∃ v, e = .returned v ∧ Q .normal (a.put oi.dst v) y) : wpAny P md L.toArray Q (n + 1) l a w := by
  refine ⟨fun h => (by rw [hr] at h; cases h), fun j hj => ?_⟩
  rw [hr, List.mem_singleton] at hj
  subst hj
  unfold wpOp
  rw [at_drop hi]
  dsimp only
  rw [if_pos hw]
  refine Or.inl ?_
  unfold Oper.wp
  rw [hy]
  refine h.mono ?_
  rintro e y ⟨v, rfl, hq⟩
  cases n with
  | zero => exact ⟨hd, hq⟩
  | succ n => exact ⟨fun _ => hq, by rw [hd]; simp⟩
/-- One alone may come up: a store; the rest behind it. -/
theorem wpA_step {L r : List Oper} {i : Nat} {oi : Oper} {n : Nat} {l : Array Bool} {a : Act} {w y : World} (hr : Region.ready md L.toArray l = [i]) (hi : L.drop i = oi :: r) (hw : Region.wanted oi (yielded L.toArray a.tmps) = true) (hy : (execOp a.eval oi).run P w = .ok .skip y)
    (h : wpAny P md L.toArray Q n (l.setIfInBounds i true) (a.put oi.dst undef) y) : wpAny P md L.toArray Q (n + 1) l a w := by
  refine ⟨fun h => (by rw [hr] at h; cases h), fun j hj => ?_⟩
  rw [hr, List.mem_singleton] at hj
  subst hj
  unfold wpOp
  rw [at_drop hi]
  dsimp only
  rw [if_pos hw]
  refine Or.inl ?_
  unfold Oper.wp
  rw [hy]
  exact h
theorem wpA_done {ops : Array Oper} {l : Array Bool} {a : Act} {w : World} (hr : Region.ready md ops l = []) (h : Q .normal a w) : ∀ n, wpAny P md ops Q n l a w
  | 0 => ⟨hr, h⟩
  | _ + 1 => ⟨fun _ => h, by rw [hr]; simp⟩
/-- The last one: a store. -/
theorem wpA_store {L r : List Oper} {i : Nat} {oi : Oper} {n : Nat} {l : Array Bool} {a : Act} {w y : World} (hr : Region.ready md L.toArray l = [i]) (hi : L.drop i = oi :: r) (hw : Region.wanted oi (yielded L.toArray a.tmps) = true) (hy : (execOp a.eval oi).run P w = .ok .skip y)
    (hd : Region.ready md L.toArray (l.setIfInBounds i true) = []) (h : Q .normal (a.put oi.dst undef) y) : wpAny P md L.toArray Q (n + 1) l a w := by
  refine ⟨fun h => (by rw [hr] at h; cases h), fun j hj => ?_⟩
  rw [hr, List.mem_singleton] at hj
  subst hj
  unfold wpOp
  rw [at_drop hi]
  dsimp only
  rw [if_pos hw]
  refine Or.inl ?_
  unfold Oper.wp
  rw [hy]
  cases n with
  | zero => exact ⟨hd, h⟩
  | succ n => exact ⟨fun _ => h, by rw [hd]; simp⟩
end
end Go.Proofs.Ytcnjjbgilpgceaa
/- GrwE: A region that draws its order, behind its last free operation: one alone may come up at a time: a call, or a value of the memory as it is. -/
namespace Go.Proofs.Ytcnjjbgilpgceaa
set_option maxRecDepth 100000
open Go.RowKit
section
variable {P : Program} {Q : Exit → Act → World → Prop} {md : Region.Mode}
/-- One alone may come up: a call; the rest behind it. -/
theorem wpA_mid {L r : List Oper} {i : Nat} {oi : Oper} {f : FuncId} {args : Array Value} {n : Nat} {l : Array Bool} {a : Act} {w : World} (hr : Region.ready md L.toArray l = [i]) (hi : L.drop i = oi :: r) (hw : Region.wanted oi (yielded L.toArray a.tmps) = true) (hy : (execOp a.eval oi).run P w = .ok (.enter f args) w)
    (h : Calls P f args w fun e y => ∃ v, e = .returned v ∧ wpAny P md L.toArray Q n (l.setIfInBounds i true) (a.put oi.dst v) y) : wpAny P md L.toArray Q (n + 1) l a w := by
  refine ⟨fun h => (by rw [hr] at h; cases h), fun j hj => ?_⟩
  rw [hr, List.mem_singleton] at hj
  subst hj
  unfold wpOp
  rw [at_drop hi]
  dsimp only
  rw [if_pos hw]
  refine Or.inl ?_
  unfold Oper.wp
  rw [hy]
  refine h.mono ?_
  rintro e y ⟨v, rfl, hq⟩
  exact hq
/-- One alone may come up: a value; the rest behind it. -/
theorem wpA_here {L r : List Oper} {i : Nat} {oi : Oper} {v : Value} {n : Nat} {l : Array Bool} {a : Act} {w y : World} (hr : Region.ready md L.toArray l = [i]) (hi : L.drop i = oi :: r) (hw : Region.wanted oi (yielded L.toArray a.tmps) = true) (hy : (execOp a.eval oi).run P w = .ok (.value v) y)
    (h : wpAny P md L.toArray Q n (l.setIfInBounds i true) (a.put oi.dst v) y) : wpAny P md L.toArray Q (n + 1) l a w := by
  refine ⟨fun h => (by rw [hr] at h; cases h), fun j hj => ?_⟩
  rw [hr, List.mem_singleton] at hj
  subst hj
  unfold wpOp
  rw [at_drop hi]
  dsimp only
  rw [if_pos hw]
  refine Or.inl ?_
  unfold Oper.wp
  rw [hy]
  exact h
/-- Two may come up, each a store: in either order. -/
theorem wpA_two {L r r' : List Oper} {i j : Nat} {oi oj : Oper} {n : Nat} {l : Array Bool} {a : Act} {w y z : World} (hr : Region.ready md L.toArray l = [i, j]) (hi : L.drop i = oi :: r) (hj : L.drop j = oj :: r') (hw : Region.wanted oi (yielded L.toArray a.tmps) = true) (hw' : Region.wanted oj (yielded L.toArray a.tmps) = true)
    (hy : (execOp a.eval oi).run P w = .ok .skip y) (hz : (execOp a.eval oj).run P w = .ok .skip z)
    (h : wpAny P md L.toArray Q n (l.setIfInBounds i true) (a.put oi.dst undef) y) (h' : wpAny P md L.toArray Q n (l.setIfInBounds j true) (a.put oj.dst undef) z) : wpAny P md L.toArray Q (n + 1) l a w := by
  refine ⟨fun h => (by rw [hr] at h; cases h), fun k hk => ?_⟩
  rw [hr] at hk
  rcases List.mem_cons.1 hk with rfl | hk
  · unfold wpOp
    rw [at_drop hi]
    dsimp only
    rw [if_pos hw]
    refine Or.inl ?_
    unfold Oper.wp
    rw [hy]
    exact h
  · rw [List.mem_singleton] at hk
    subst hk
    unfold wpOp
    rw [at_drop hj]
    dsimp only
    rw [if_pos hw']
    refine Or.inl ?_
    unfold Oper.wp
    rw [hz]
    exact h'
end
end Go.Proofs.Ytcnjjbgilpgceaa
/- GrwD: As GrwC, with any set of last operations; pure values among them are taken ahead (written by gen/mkgrwd.py). -/
namespace Go.Proofs.Ytcnjjbgilpgceaa
set_option maxRecDepth 100000
open Go.RowKit
section
variable {P : Program} {ops : Array Oper} {Q : Exit → Act → World → Prop} {md : Region.Mode} {tl : Nat → Bool}
/-- Only operations from number m on are left. -/
def tailedD (tl : Nat → Bool) (ops : Array Oper) (l : Array Bool) : Bool := (List.range ops.size).all fun j => l.getD j true || tl j
theorem tailedD_spec {l : Array Bool} (h : tailedD tl ops l = true) {j : Nat} (hj : l.getD j true = false) (hs : j < ops.size) : tl j = true := by
  have := List.all_eq_true.1 h j (by simpa using hs)
  rw [hj, Bool.false_or] at this
  exact this
/-- Whatever order is picked from here on, in whatever later world, until only the last ones are left. -/
def wpD (P : Program) (md : Region.Mode) (ops : Array Oper) (Q : Exit → Act → World → Prop) (tl : Nat → Bool) : Nat → Array Bool → Act → World → Prop
  | 0, l, a, w => ∀ x, Later w x → wpAny P md ops Q 0 l a x
  | n + 1, l, a, w => (tailedD tl ops l = true ∧ ∀ x, Later w x → wpAny P md ops Q (n + 1) l a x) ∨ (∀ x, Later w x → (Region.ready md ops l = [] → Q .normal a x) ∧
      ∀ i ∈ Region.ready md ops l, wpOp P ops Q i (fun a' y => Later x y ∧ wpD P md ops Q tl n (l.setIfInBounds i true) a' y) a x)
theorem wpD_later : ∀ (n : Nat) (l : Array Bool) (a : Act) (w y : World), Later w y → wpD P md ops Q tl n l a w → wpD P md ops Q tl n l a y
  | 0, _, _, _, _, hy, h => fun x hx => h x (hy.trans hx)
  | _ + 1, _, _, _, _, hy, h => h.imp (fun q => ⟨q.1, fun x hx => q.2 x (hy.trans hx)⟩) (fun q x hx => q x (hy.trans hx))
theorem wpAny_of_D : ∀ (n : Nat) (l : Array Bool) (a : Act) (w : World), wpD P md ops Q tl n l a w → wpAny P md ops Q n l a w
  | 0, _, _, w, h => h w (Later.refl w)
  | n + 1, _, _, w, h => by
    rcases h with h | h
    · exact h.2 w (Later.refl w)
    · exact ⟨(h w (Later.refl w)).1, fun i hi => wpOp_mono (fun a' y hh => wpAny_of_D n _ a' y hh.2) ((h w (Later.refl w)).2 i hi)⟩
/-- The last ones that are left wait for number i. -/
def waitsD (md : Region.Mode) (tl : Nat → Bool) (ops : Array Oper) (l : Array Bool) (i : Nat) (C : List Nat) : Bool :=
  (C.all fun c => !(l.getD c true) && (((ops[c]?).map fun o => o.after.any fun e => Region.binds md e && ((e.on == i) || C.contains e.on)) == some true)) && ((List.range ops.size).all fun f => !(tl f) || l.getD f true || C.contains f)
theorem waitsD_spec {l : Array Bool} {i : Nat} {C : List Nat} (h : waitsD md tl ops l i C = true) (hi : l.getD i true = false) : ∀ c ∈ C, c ∉ Region.ready md ops l := by
  unfold waitsD at h
  rw [Bool.and_eq_true] at h
  intro c hc hr
  have h1 := List.all_eq_true.1 h.1 c hc
  rw [Bool.and_eq_true] at h1
  obtain ⟨-, o, ho, hall⟩ := mem_ready.1 hr
  rw [ho] at h1
  simp only [Option.map_some, beq_iff_eq, Option.some.injEq] at h1
  have h2 := h1.2
  rw [Array.any_eq_true'] at h2
  obtain ⟨e, he, q⟩ := h2
  rw [Bool.and_eq_true, Bool.or_eq_true] at q
  have hd := hall e he q.1
  rcases q.2 with q2 | q2
  · rw [beq_iff_eq] at q2
    rw [q2] at hd
    exact getD_clash hi hd
  · have hm : e.on ∈ C := by simpa using q2
    have h3 := List.all_eq_true.1 h.1 _ hm
    rw [Bool.and_eq_true, Bool.not_eq_true'] at h3
    exact getD_clash h3.1 hd
theorem waitsD_last {l : Array Bool} {i f : Nat} {C : List Nat} (h : waitsD md tl ops l i C = true) (hf : tl f = true) (hu : l.getD f true = false) (hs : f < ops.size) : f ∈ C := by
  unfold waitsD at h
  rw [Bool.and_eq_true] at h
  have := List.all_eq_true.1 h.2 f (by simpa using hs)
  rw [hu, Bool.or_false, hf] at this
  simpa using this
theorem waitsD_step {l : Array Bool} {i j : Nat} {C : List Nat} (h : waitsD md tl ops l i C = true) (hj : j ∉ C) : waitsD md tl ops (l.setIfInBounds j true) i C = true := by
  unfold waitsD at h ⊢
  rw [Bool.and_eq_true] at h ⊢
  refine ⟨List.all_eq_true.2 fun c hc => ?_, List.all_eq_true.2 fun f hf => ?_⟩
  · have h1 := List.all_eq_true.1 h.1 c hc
    have hcj : j ≠ c := fun e => hj (e ▸ hc)
    rw [getD_set_ne true hcj]
    exact h1
  · have h1 := List.all_eq_true.1 h.2 f hf
    by_cases e : j = f
    · subst e
      have : (l.setIfInBounds j true).getD j true = true := by
        simp only [Array.getD]
        split
        · simp
        · rfl
      rw [this]
      simp
    · rw [getD_set_ne true e]
      exact h1
theorem wpD_first {i : Nat} {oi : Oper} {v : Value} {C : List Nat} (hi : ops[i]? = some oi) (hsel : ∀ (j : Nat) (o : Oper) cs b, ops[j]? = some o → o.op ≠ .select cs b) (hQ : ∀ c a w, Q (.panic c) (a.put oi.dst v) w → Q (.panic c) a w) :
    ∀ (n : Nat) (l : Array Bool) (a : Act) (w : World), waitsD md tl ops l i C = true → (∀ j oj, ops[j]? = some oj → j ≠ i → l.getD j true = false → (∀ e ∈ oj.after, Region.binds md e = true → e.on ≠ i) → oi.apart ops oj = true) →
      i ∈ Region.ready md ops l → YL P ops oi v a w → wpD P md ops Q tl n (l.setIfInBounds i true) (a.put oi.dst v) w → wpD P md ops Q tl (n + 1) l a w := by
  intro n
  induction n with
  | zero =>
    intro l a w _ _ hr hy H
    refine .inr fun x hx => ⟨fun h => (by rw [h] at hr; cases hr), fun j hj => ?_⟩
    by_cases hji : j = i
    · subst hji
      exact hy.op hi hx fun y hxy => ⟨hxy, wpD_later 0 _ _ _ _ (hx.trans hxy) H⟩
    · have q := ready_mono hj hji
      rw [(H w (Later.refl w)).1] at q
      cases q
  | succ n ih =>
    intro l a w hwt hfree hr hy H
    refine .inr fun x hx => ⟨fun h => (by rw [h] at hr; cases hr), fun j hj => ?_⟩
    by_cases hji : j = i
    · subst hji
      exact hy.op hi hx fun y hxy => ⟨hxy, wpD_later (n + 1) _ _ _ _ (hx.trans hxy) H⟩
    · obtain ⟨hun, oj, hoj, -⟩ := mem_ready.1 hj
      have hjC : j ∉ C := fun hc => waitsD_spec hwt (mem_ready.1 hr).1 j hc hj
      rcases H with H | H
      · have hju : (l.setIfInBounds i true).getD j true = false := by rw [getD_set_ne true (Ne.symm hji)]; exact hun
        have hjs := (Array.getElem?_eq_some_iff.1 hoj).1
        have hjm := tailedD_spec H.1 hju hjs
        exact absurd (waitsD_last hwt hjm hun hjs) hjC
      · have q := op_beside hoj (hfree j oj hoj hji hun (ready_free hr hj hoj)) (fun cs b => hsel i oi cs b hi) (fun cs b => hsel j oj cs b hoj) hQ hy ((H x hx).2 j (ready_mono hj hji))
        refine wpOp_mono (fun b y hb => ⟨hb.2.1, ih (l.setIfInBounds j true) b y (waitsD_step hwt hjC) (fun k ok hk hki hku hno => hfree k ok hk hki ?_ hno) (ready_mono hr (Ne.symm hji)) (hb.1.later (hx.trans hb.2.1)) ?_⟩) q
        · by_cases hjk : j = k
          · subst hjk; exact hun
          · rw [getD_set_ne true hjk] at hku; exact hku
        · rw [Array.setIfInBounds_comm _ _ hji]
          exact hb.2.2
theorem wpD_tail {l : Array Bool} {a : Act} {w : World} (ht : tailedD tl ops l = true) : ∀ {n : Nat}, (∀ x, Later w x → wpAny P md ops Q n l a x) → wpD P md ops Q tl n l a w
  | 0, h => h
  | _ + 1, h => .inl ⟨ht, h⟩
theorem wpD_done {l : Array Bool} {a : Act} {w : World} (hr : Region.ready md ops l = []) (h : ∀ x, Later w x → Q .normal a x) : ∀ n, wpD P md ops Q tl n l a w
  | 0 => fun x hx => ⟨hr, h x hx⟩
  | _ + 1 => .inr fun x hx => ⟨fun _ => h x hx, by rw [hr]; simp⟩
theorem wp_region_set {id : Nat} {a : Act} {w : World} (tl : Nat → Bool) (hm : P.follows .mixedOrders = true) (h : wpD P .any ops Q tl ops.size (Array.replicate ops.size false) a w.drew) : (Code.region id ops true).wp P Q a w :=
  wp_region_any hm (wpAny_of_D _ _ _ _ h)
end
section
variable {P : Program} {Q : Exit → Act → World → Prop} {md : Region.Mode} {tl : Nat → Bool}
/-- Take number i: a value. -/
theorem wpD_val {L r : List Oper} {i : Nat} {oi : Oper} {v : Value} {n : Nat} {l : Array Bool} {a : Act} {w : World} (hi : L.drop i = oi :: r) (hs : Region.noSelect L.toArray = true) (hf : Region.free md L.toArray l i = true) (hr : (Region.ready md L.toArray l).contains i = true) (ht : waitsD md tl L.toArray l i (clo md L.toArray l i) = true)
    (hQ : ∀ c a w, Q (.panic c) (a.put oi.dst v) w → Q (.panic c) a w) (hw : Region.wanted oi (yielded L.toArray a.tmps) = true) (hy : ∀ x, Later w x → (execOp a.eval oi).run P x = .ok (.value v) x)
    (h : wpD P md L.toArray Q tl n (l.setIfInBounds i true) (a.put oi.dst v) w) : wpD P md L.toArray Q tl (n + 1) l a w :=
  wpD_first (at_drop hi) (Region.noSelect_spec hs) hQ n l a w ht (Region.free_spec (at_drop hi) hf) (by simpa using hr) (Or.inl ⟨hw, fun x hx => by unfold Oper.quietAt; rw [hy x hx]; exact ⟨rfl, rfl⟩⟩) h
/-- Take number i: a call. -/
theorem wpD_call {L r : List Oper} {i : Nat} {oi : Oper} {v : Value} {f : FuncId} {args : Array Value} {n : Nat} {l : Array Bool} {a : Act} {w : World} (hi : L.drop i = oi :: r) (hs : Region.noSelect L.toArray = true) (hf : Region.free md L.toArray l i = true) (hr : (Region.ready md L.toArray l).contains i = true) (ht : waitsD md tl L.toArray l i (clo md L.toArray l i) = true)
    (hQ : ∀ c a w, Q (.panic c) (a.put oi.dst v) w → Q (.panic c) a w) (hw : Region.wanted oi (yielded L.toArray a.tmps) = true) (hy : ∀ x, Later w x → (execOp a.eval oi).run P x = .ok (.enter f args) x)
    (hc : ∀ x, Later w x → Calls P f args x fun e y => e = .returned v ∧ Below x.heap.size x y)
    (h : wpD P md L.toArray Q tl n (l.setIfInBounds i true) (a.put oi.dst v) w) : wpD P md L.toArray Q tl (n + 1) l a w :=
  wpD_first (at_drop hi) (Region.noSelect_spec hs) hQ n l a w ht (Region.free_spec (at_drop hi) hf) (by simpa using hr) (Or.inl ⟨hw, fun x hx => by unfold Oper.quietAt; rw [hy x hx]; exact ⟨rfl, hc x hx⟩⟩) h
/-- Take number i: it is not wanted. -/
theorem wpD_skip {L r : List Oper} {i : Nat} {oi : Oper} {n : Nat} {l : Array Bool} {a : Act} {w : World} (hi : L.drop i = oi :: r) (hs : Region.noSelect L.toArray = true) (hf : Region.free md L.toArray l i = true) (hr : (Region.ready md L.toArray l).contains i = true) (ht : waitsD md tl L.toArray l i (clo md L.toArray l i) = true)
    (hQ : ∀ c a w, Q (.panic c) (a.put oi.dst undef) w → Q (.panic c) a w) (hw : Region.wanted oi (yielded L.toArray a.tmps) = false)
    (h : wpD P md L.toArray Q tl n (l.setIfInBounds i true) (a.put oi.dst undef) w) : wpD P md L.toArray Q tl (n + 1) l a w :=
  wpD_first (at_drop hi) (Region.noSelect_spec hs) hQ n l a w ht (Region.free_spec (at_drop hi) hf) (by simpa using hr) (Or.inr ⟨hw, rfl⟩) h
/-- One alone may come up, and answers a value; memory may be made. -/
theorem wpD_one {L r : List Oper} {i : Nat} {oi : Oper} {n : Nat} {l : Array Bool} {a : Act} {w : World} (hr : Region.ready md L.toArray l = [i]) (hi : L.drop i = oi :: r) (hw : Region.wanted oi (yielded L.toArray a.tmps) = true)
    (h : ∀ x, Later w x → ∃ (v : Value) (y : World), (execOp a.eval oi).run P x = .ok (.value v) y ∧ Later x y ∧ wpD P md L.toArray Q tl n (l.setIfInBounds i true) (a.put oi.dst v) y) : wpD P md L.toArray Q tl (n + 1) l a w := by
  refine .inr fun x hx => ?_
  rw [hr]
  refine ⟨fun h => (by cases h), fun j hj => ?_⟩
  rw [List.mem_singleton] at hj
  subst hj
  obtain ⟨v, y, h1, h2, h3⟩ := h x hx
  unfold wpOp
  rw [at_drop hi]
  dsimp only
  rw [if_pos hw]
  refine Or.inl ?_
  unfold Oper.wp
  rw [h1]
  exact ⟨h2, h3⟩
/-- One alone may come up: a call that answers what it likes and only makes memory. -/
theorem wpD_onecall {L r : List Oper} {i : Nat} {oi : Oper} {f : FuncId} {args : Array Value} {n : Nat} {l : Array Bool} {a : Act} {w : World} (hr : Region.ready md L.toArray l = [i]) (hi : L.drop i = oi :: r) (hw : Region.wanted oi (yielded L.toArray a.tmps) = true)
    (hy : ∀ x, Later w x → (execOp a.eval oi).run P x = .ok (.enter f args) x)
    (h : ∀ x, Later w x → Calls P f args x fun e y => ∃ v, e = .returned v ∧ Below x.heap.size x y ∧ wpD P md L.toArray Q tl n (l.setIfInBounds i true) (a.put oi.dst v) y) : wpD P md L.toArray Q tl (n + 1) l a w := by
  refine .inr fun x hx => ?_
  rw [hr]
  refine ⟨fun h => (by cases h), fun j hj => ?_⟩
  rw [List.mem_singleton] at hj
  subst hj
  unfold wpOp
  rw [at_drop hi]
  dsimp only
  rw [if_pos hw]
  refine Or.inl ?_
  unfold Oper.wp
  rw [hy x hx]
  exact (h x hx).mono (by rintro e y ⟨v, rfl, h1, h2⟩; exact ⟨h1, h2⟩)
/-- A call and the making of a box may come up, in either order. -/
theorem wpD_callbox {L r r' : List Oper} {i j : Nat} {oi oj : Oper} {f : FuncId} {args : Array Value} {n : Nat} {l : Array Bool} {a : Act} {w : World} {C : Array Value} {t : TypeId}
    (hr : Region.ready md L.toArray l = [i, j]) (hi : L.drop i = oi :: r) (hj : L.drop j = oj :: r') (hw : Region.wanted oi (yielded L.toArray a.tmps) = true) (hwj : Region.wanted oj (yielded L.toArray a.tmps) = true)
    (hy : ∀ x, Later w x → (execOp a.eval oi).run P x = .ok (.enter f args) x) (hz : ∀ x, Later w x → (execOp a.eval oj).run P x = .ok (.value (.pointer (some ⟨x.heap.size, 0, none⟩))) (x.alloc (.cells C t)))
    (h1 : ∀ x, Later w x → Calls P f args x fun e y => ∃ v, e = .returned v ∧ Below x.heap.size x y ∧ wpD P md L.toArray Q tl n (l.setIfInBounds i true) (a.put oi.dst v) y)
    (h2 : ∀ x, Later w x → wpD P md L.toArray Q tl n (l.setIfInBounds j true) (a.put oj.dst (.pointer (some ⟨x.heap.size, 0, none⟩))) (x.alloc (.cells C t))) : wpD P md L.toArray Q tl (n + 1) l a w := by
  refine .inr fun x hx => ?_
  rw [hr]
  refine ⟨fun h => (by cases h), fun k hk => ?_⟩
  rw [List.mem_cons, List.mem_singleton] at hk
  unfold wpOp
  rcases hk with rfl | rfl
  · rw [at_drop hi]
    dsimp only
    rw [if_pos hw]
    refine Or.inl ?_
    unfold Oper.wp
    rw [hy x hx]
    exact (h1 x hx).mono (by rintro e y ⟨v, rfl, q1, q2⟩; exact ⟨q1, q2⟩)
  · rw [at_drop hj]
    dsimp only
    rw [if_pos hwj]
    refine Or.inl ?_
    unfold Oper.wp
    rw [hz x hx]
    exact ⟨(Below.refl _ _).alloc (Nat.le_refl _) _, h2 x hx⟩
/-- One of the last ones that is a value in every world is taken first. -/
theorem wpD_purely {ops : Array Oper} {i : Nat} {oi : Oper} {v : Value} (hi : ops[i]? = some oi) (hti : tl i = true) (hsel : ∀ (j : Nat) (o : Oper) cs b, ops[j]? = some o → o.op ≠ .select cs b) (hQ : ∀ c a w, Q (.panic c) (a.put oi.dst v) w → Q (.panic c) a w) :
    ∀ (n : Nat) (l : Array Bool) (a : Act) (w : World), (∀ j oj, ops[j]? = some oj → j ≠ i → l.getD j true = false → (∀ e ∈ oj.after, Region.binds md e = true → e.on ≠ i) → oi.apart ops oj = true) →
      i ∈ Region.ready md ops l → Region.wanted oi (yielded ops a.tmps) = true → (∀ x, (execOp a.eval oi).run P x = .ok (.value v) x) → wpD P md ops Q tl n (l.setIfInBounds i true) (a.put oi.dst v) w → wpD P md ops Q tl (n + 1) l a w := by
  have htail : ∀ {l : Array Bool}, tailedD tl ops (l.setIfInBounds i true) = true → tailedD tl ops l = true := fun {l} h => by
    unfold tailedD at h ⊢
    refine List.all_eq_true.2 fun j hj => ?_
    by_cases e : i = j
    · subst e
      rw [hti, Bool.or_true]
    · have := List.all_eq_true.1 h j hj
      rw [getD_set_ne true e] at this
      exact this
  intro n
  induction n with
  | zero =>
    intro l a w _ hr hw hy H
    refine .inr fun x hx => ⟨fun h => (by rw [h] at hr; cases hr), fun j hj => ?_⟩
    by_cases hji : j = i
    · subst hji
      have hyl : YL P ops oi v a w := Or.inl ⟨hw, fun x _ => by unfold Oper.quietAt; rw [hy x]; exact ⟨rfl, rfl⟩⟩
      exact hyl.op hi hx fun y hxy => ⟨hxy, wpD_later 0 _ _ _ _ (hx.trans hxy) H⟩
    · have q := ready_mono hj hji
      rw [(H w (Later.refl w)).1] at q
      cases q
  | succ n ih =>
    intro l a w hfree hr hw hy H
    rcases H with H | H
    · exact .inl ⟨htail H.1, fun x hx => wpA_first hi hsel hQ _ l a x hfree hr hw hy (H.2 x hx)⟩
    · have hyl : YL P ops oi v a w := Or.inl ⟨hw, fun x _ => by unfold Oper.quietAt; rw [hy x]; exact ⟨rfl, rfl⟩⟩
      refine .inr fun x hx => ⟨fun h => (by rw [h] at hr; cases hr), fun j hj => ?_⟩
      by_cases hji : j = i
      · subst hji
        exact hyl.op hi hx fun y hxy => ⟨hxy, wpD_later (n + 1) _ _ _ _ (hx.trans hxy) (.inr H)⟩
      · obtain ⟨hun, oj, hoj, -⟩ := mem_ready.1 hj
        have hap := hfree j oj hoj hji hun (ready_free hr hj hoj)
        have h3 := (Oper.apart_spec hap).2.2
        have q := op_frame hoj (wpOp_putIf (S := fun _ => False) hoj hap (fun cs b => hsel i oi cs b hi) (fun cs b => hsel j oj cs b hoj) hQ (Or.inl ⟨hw, fun _ hf => hf.elim⟩) ((H x hx).2 j (ready_mono hj hji)))
        refine wpOp_mono ?_ q
        have step : ∀ (b : Act) (y : World), Later x y → execOp b.eval oi = execOp a.eval oi → Region.wanted oi (yielded ops b.tmps) = Region.wanted oi (yielded ops a.tmps) → wpD P md ops Q tl n ((l.setIfInBounds i true).setIfInBounds j true) (b.put oi.dst v) y → Later x y ∧ wpD P md ops Q tl (n + 1) (l.setIfInBounds j true) b y := fun b y hl e1 e2 hk => by
          refine ⟨hl, ih (l.setIfInBounds j true) b y (fun k ok hk hki hku hno => hfree k ok hk hki ?_ hno) (ready_mono hr (Ne.symm hji)) (by rw [e2]; exact hw) (fun x => by rw [e1]; exact hy x) ?_⟩
          · by_cases hjk : j = k
            · subst hjk; exact hun
            · rw [getD_set_ne true hjk] at hku; exact hku
          · rw [Array.setIfInBounds_comm _ _ hji]
            exact hk
        rintro b y ⟨⟨u, rfl | ⟨f, rfl⟩⟩, -, hl, hk⟩
        · exact step _ _ hl (execOp_put oi (fun cs b => hsel i oi cs b hi) a oj.dst u h3) (wanted_put oi a oj.dst u h3) hk
        · exact step _ _ hl (execOp_put oi (fun cs b => hsel i oi cs b hi) { a with defers := f :: a.defers } oj.dst u h3) (wanted_put oi { a with defers := f :: a.defers } oj.dst u h3) hk
theorem wpD_pure {L r : List Oper} {i : Nat} {oi : Oper} {v : Value} {n : Nat} {l : Array Bool} {a : Act} {w : World} (hi : L.drop i = oi :: r) (hti : tl i = true) (hs : Region.noSelect L.toArray = true) (hf : Region.free md L.toArray l i = true) (hr : (Region.ready md L.toArray l).contains i = true)
    (hQ : ∀ c a w, Q (.panic c) (a.put oi.dst v) w → Q (.panic c) a w) (hw : Region.wanted oi (yielded L.toArray a.tmps) = true) (hy : ∀ x, (execOp a.eval oi).run P x = .ok (.value v) x)
    (h : wpD P md L.toArray Q tl n (l.setIfInBounds i true) (a.put oi.dst v) w) : wpD P md L.toArray Q tl (n + 1) l a w :=
  wpD_purely (at_drop hi) hti (Region.noSelect_spec hs) hQ n l a w (Region.free_spec (at_drop hi) hf) (by simpa using hr) hw hy h
end
end Go.Proofs.Ytcnjjbgilpgceaa
/- GrwF: A region that draws its order: as GrwB, over any way in which later worlds may be told (written by gen/mkgrwf.py). -/
namespace Go.Proofs.Ytcnjjbgilpgceaa
set_option maxRecDepth 100000
open Go.RowKit

/-- A way to tell later worlds. -/
def Pre9 (R : World → World → Prop) : Prop := (∀ w, R w w) ∧ ∀ {a b c : World}, R a b → R b c → R a c
section
variable {R : World → World → Prop} {P : Program} {ops : Array Oper} {Q : Exit → Act → World → Prop} {md : Region.Mode}
/-- Whatever order is picked from here on, in whatever later world. -/
def wpR (R : World → World → Prop) (P : Program) (md : Region.Mode) (ops : Array Oper) (Q : Exit → Act → World → Prop) : Nat → Array Bool → Act → World → Prop
  | 0, l, a, w => Region.ready md ops l = [] ∧ ∀ x, R w x → Q .normal a x
  | n + 1, l, a, w => ∀ x, R w x → (Region.ready md ops l = [] → Q .normal a x) ∧
      ∀ i ∈ Region.ready md ops l, wpOp P ops Q i (fun a' y => R x y ∧ wpR R P md ops Q n (l.setIfInBounds i true) a' y) a x
theorem wpR_later (HR : Pre9 R) : ∀ (n : Nat) (l : Array Bool) (a : Act) (w y : World), R w y → wpR R P md ops Q n l a w → wpR R P md ops Q n l a y
  | 0, _, _, _, _, hy, h => ⟨h.1, fun x hx => h.2 x (HR.2 hy hx)⟩
  | _ + 1, _, _, _, _, hy, h => fun x hx => h x (HR.2 hy hx)
theorem wpAny_of_R (HR : Pre9 R) : ∀ (n : Nat) (l : Array Bool) (a : Act) (w : World), wpR R P md ops Q n l a w → wpAny P md ops Q n l a w
  | 0, _, _, w, h => ⟨h.1, h.2 w (HR.1 w)⟩
  | n + 1, _, _, w, h => ⟨(h w (HR.1 w)).1, fun i hi => wpOp_mono (fun a' y hh => wpAny_of_R HR n _ a' y hh.2) ((h w (HR.1 w)).2 i hi)⟩
/-- One value, in every later world; a call may make memory. -/
def YR (R : World → World → Prop) (P : Program) (ops : Array Oper) (o : Oper) (v : Value) (a : Act) (w : World) : Prop :=
  (Region.wanted o (yielded ops a.tmps) = true ∧ ∀ x, R w x → o.quietAt P a (R x) x v) ∨ (Region.wanted o (yielded ops a.tmps) = false ∧ v = undef)
theorem YR.later (HR : Pre9 R) {o : Oper} {v : Value} {a : Act} {w y : World} (h : YR R P ops o v a w) (hy : R w y) : YR R P ops o v a y :=
  h.imp (fun q => ⟨q.1, fun x hx => q.2 x (HR.2 hy hx)⟩) id
theorem YR.same {o : Oper} {v : Value} {a b : Act} {w : World} (h : YR R P ops o v a w) (he : execOp b.eval o = execOp a.eval o) (hw : Region.wanted o (yielded ops b.tmps) = Region.wanted o (yielded ops a.tmps)) : YR R P ops o v b w := by
  unfold YR Oper.quietAt at *
  rw [he, hw]
  exact h
theorem YR.op (HR : Pre9 R) {i : Nat} {o : Oper} {v : Value} {a : Act} {w x : World} {K : Act → World → Prop} (hi : ops[i]? = some o) (h : YR R P ops o v a w) (hx : R w x) (hk : ∀ y, R x y → K (a.put o.dst v) y) : wpOp P ops Q i K a x := by
  unfold wpOp
  rw [hi]
  dsimp only
  rcases h with ⟨hw, hq⟩ | ⟨hw, hv⟩
  · rw [if_pos hw]
    refine Or.inl ?_
    have q := hq x hx
    unfold Oper.quietAt at q
    unfold Oper.wp
    revert q
    cases (execOp a.eval o).run P x with
    | halt _ _ => exact False.elim
    | ok r y =>
      cases r with
      | value u => rintro ⟨rfl, rfl⟩; exact hk _ (HR.1 _)
      | skip => rintro ⟨rfl, rfl⟩; exact hk _ (HR.1 _)
      | enter f args => rintro ⟨rfl, hc⟩; exact hc.mono (by rintro _ z ⟨rfl, hz⟩; exact hk _ hz)
      | _ => exact False.elim
  · rw [if_neg (by rw [hw]; exact Bool.false_ne_true), ← hv]
    exact hk _ (HR.1 _)
/-- An operation beside another that has its value already: the library's law for no world at all, and what the frame may be behind it. -/
theorem op_besideR {j : Nat} {oi oj : Oper} {v : Value} {w : World} (hj : ops[j]? = some oj) (hap : oi.apart ops oj = true) (hsi : ∀ cs b, oi.op ≠ .select cs b) (hsj : ∀ cs b, oj.op ≠ .select cs b)
    (hQ : ∀ c a w, Q (.panic c) (a.put oi.dst v) w → Q (.panic c) a w) {K : Act → World → Prop} {a : Act} {x : World} (hy : YR R P ops oi v a w) (h : wpOp P ops Q j K (a.put oi.dst v) x) :
    wpOp P ops Q j (fun a' y => YR R P ops oi v a' w ∧ K (a'.put oi.dst v) y) a x := by
  have h3 := (Oper.apart_spec hap).2.2
  refine wpOp_mono ?_ (op_frame hj (wpOp_putIf (S := fun _ => False) hj hap hsi hsj hQ (hy.imp (fun q => ⟨q.1, fun _ hf => hf.elim⟩) id) h))
  rintro b y ⟨⟨u, rfl | ⟨f, rfl⟩⟩, -, hk⟩
  · exact ⟨hy.same (execOp_put oi hsi a oj.dst u h3) (wanted_put oi a oj.dst u h3), hk⟩
  · have q : YR R P ops oi v { a with defers := f :: a.defers } w := hy.same rfl rfl
    exact ⟨q.same (execOp_put oi hsi _ oj.dst u h3) (wanted_put oi _ oj.dst u h3), hk⟩
theorem wpR_first (HR : Pre9 R) {i : Nat} {oi : Oper} {v : Value} (hi : ops[i]? = some oi) (hsel : ∀ (j : Nat) (o : Oper) cs b, ops[j]? = some o → o.op ≠ .select cs b) (hQ : ∀ c a w, Q (.panic c) (a.put oi.dst v) w → Q (.panic c) a w) :
    ∀ (n : Nat) (l : Array Bool) (a : Act) (w : World), (∀ j oj, ops[j]? = some oj → j ≠ i → l.getD j true = false → (∀ e ∈ oj.after, Region.binds md e = true → e.on ≠ i) → oi.apart ops oj = true) →
      i ∈ Region.ready md ops l → YR R P ops oi v a w → wpR R P md ops Q n (l.setIfInBounds i true) (a.put oi.dst v) w → wpR R P md ops Q (n + 1) l a w := by
  intro n
  induction n with
  | zero =>
    intro l a w _ hr hy H x hx
    refine ⟨fun h => (by rw [h] at hr; cases hr), fun j hj => ?_⟩
    by_cases hji : j = i
    · subst hji
      exact hy.op HR hi hx fun y hxy => ⟨hxy, wpR_later HR 0 _ _ _ _ (HR.2 hx hxy) H⟩
    · have q := ready_mono hj hji
      rw [H.1] at q
      cases q
  | succ n ih =>
    intro l a w hfree hr hy H x hx
    refine ⟨fun h => (by rw [h] at hr; cases hr), fun j hj => ?_⟩
    by_cases hji : j = i
    · subst hji
      exact hy.op HR hi hx fun y hxy => ⟨hxy, wpR_later HR (n + 1) _ _ _ _ (HR.2 hx hxy) H⟩
    · obtain ⟨hun, oj, hoj, -⟩ := mem_ready.1 hj
      have q := op_besideR hoj (hfree j oj hoj hji hun (ready_free hr hj hoj)) (fun cs b => hsel i oi cs b hi) (fun cs b => hsel j oj cs b hoj) hQ hy ((H x hx).2 j (ready_mono hj hji))
      refine wpOp_mono (fun b y hb => ⟨hb.2.1, ih (l.setIfInBounds j true) b y (fun k ok hk hki hku hno => hfree k ok hk hki ?_ hno) (ready_mono hr (Ne.symm hji)) (hb.1.later HR (HR.2 hx hb.2.1)) ?_⟩) q
      · by_cases hjk : j = k
        · subst hjk; exact hun
        · rw [getD_set_ne true hjk] at hku; exact hku
      · rw [Array.setIfInBounds_comm _ _ hji]
        exact hb.2.2
/-- Take number i: a value. -/
theorem wpR_val (HR : Pre9 R) {L r : List Oper} {i : Nat} {oi : Oper} {v : Value} {n : Nat} {l : Array Bool} {a : Act} {w : World} (hi : L.drop i = oi :: r) (hs : Region.noSelect L.toArray = true) (hf : Region.free md L.toArray l i = true) (hr : (Region.ready md L.toArray l).contains i = true)
    (hQ : ∀ c a w, Q (.panic c) (a.put oi.dst v) w → Q (.panic c) a w) (hw : Region.wanted oi (yielded L.toArray a.tmps) = true) (hy : ∀ x, R w x → (execOp a.eval oi).run P x = .ok (.value v) x)
    (h : wpR R P md L.toArray Q n (l.setIfInBounds i true) (a.put oi.dst v) w) : wpR R P md L.toArray Q (n + 1) l a w :=
  wpR_first HR (at_drop hi) (Region.noSelect_spec hs) hQ n l a w (Region.free_spec (at_drop hi) hf) (by simpa using hr) (Or.inl ⟨hw, fun x hx => by unfold Oper.quietAt; rw [hy x hx]; exact ⟨rfl, rfl⟩⟩) h
/-- Take number i: a call. -/
theorem wpR_call (HR : Pre9 R) {L r : List Oper} {i : Nat} {oi : Oper} {v : Value} {f : FuncId} {args : Array Value} {n : Nat} {l : Array Bool} {a : Act} {w : World} (hi : L.drop i = oi :: r) (hs : Region.noSelect L.toArray = true) (hf : Region.free md L.toArray l i = true) (hr : (Region.ready md L.toArray l).contains i = true)
    (hQ : ∀ c a w, Q (.panic c) (a.put oi.dst v) w → Q (.panic c) a w) (hw : Region.wanted oi (yielded L.toArray a.tmps) = true) (hy : ∀ x, R w x → (execOp a.eval oi).run P x = .ok (.enter f args) x)
    (hc : ∀ x, R w x → Calls P f args x fun e y => e = .returned v ∧ R x y)
    (h : wpR R P md L.toArray Q n (l.setIfInBounds i true) (a.put oi.dst v) w) : wpR R P md L.toArray Q (n + 1) l a w :=
  wpR_first HR (at_drop hi) (Region.noSelect_spec hs) hQ n l a w (Region.free_spec (at_drop hi) hf) (by simpa using hr) (Or.inl ⟨hw, fun x hx => by unfold Oper.quietAt; rw [hy x hx]; exact ⟨rfl, hc x hx⟩⟩) h
/-- Take number i: it is not wanted. -/
theorem wpR_skip (HR : Pre9 R) {L r : List Oper} {i : Nat} {oi : Oper} {n : Nat} {l : Array Bool} {a : Act} {w : World} (hi : L.drop i = oi :: r) (hs : Region.noSelect L.toArray = true) (hf : Region.free md L.toArray l i = true) (hr : (Region.ready md L.toArray l).contains i = true)
    (hQ : ∀ c a w, Q (.panic c) (a.put oi.dst undef) w → Q (.panic c) a w) (hw : Region.wanted oi (yielded L.toArray a.tmps) = false) (h : wpR R P md L.toArray Q n (l.setIfInBounds i true) (a.put oi.dst undef) w) : wpR R P md L.toArray Q (n + 1) l a w :=
  wpR_first HR (at_drop hi) (Region.noSelect_spec hs) hQ n l a w (Region.free_spec (at_drop hi) hf) (by simpa using hr) (Or.inr ⟨hw, rfl⟩) h
/-- One alone may come up: a call. -/
theorem wpR_onecall {L r : List Oper} {i : Nat} {oi : Oper} {f : FuncId} {args : Array Value} {n : Nat} {l : Array Bool} {a : Act} {w : World} (hr : Region.ready md L.toArray l = [i]) (hi : L.drop i = oi :: r) (hw : Region.wanted oi (yielded L.toArray a.tmps) = true)
    (hy : ∀ x, R w x → (execOp a.eval oi).run P x = .ok (.enter f args) x)
    (h : ∀ x, R w x → Calls P f args x fun e y => ∃ v, e = .returned v ∧ R x y ∧ wpR R P md L.toArray Q n (l.setIfInBounds i true) (a.put oi.dst v) y) : wpR R P md L.toArray Q (n + 1) l a w := by
  intro x hx
  rw [hr]
  refine ⟨fun h => (by cases h), fun j hj => ?_⟩
  rw [List.mem_singleton] at hj
  subst hj
  unfold wpOp
  rw [at_drop hi]
  dsimp only
  rw [if_pos hw]
  refine Or.inl ?_
  unfold Oper.wp
  rw [hy x hx]
  refine (h x hx).mono ?_
  rintro e y ⟨v, rfl, hq⟩
  exact hq
/-- One alone may come up: a value, or a box. -/
theorem wpR_one {L r : List Oper} {i : Nat} {oi : Oper} {n : Nat} {l : Array Bool} {a : Act} {w : World} (hr : Region.ready md L.toArray l = [i]) (hi : L.drop i = oi :: r) (hw : Region.wanted oi (yielded L.toArray a.tmps) = true)
    (h : ∀ x, R w x → ∃ (v : Value) (y : World), (execOp a.eval oi).run P x = .ok (.value v) y ∧ R x y ∧ wpR R P md L.toArray Q n (l.setIfInBounds i true) (a.put oi.dst v) y) : wpR R P md L.toArray Q (n + 1) l a w := by
  intro x hx
  rw [hr]
  refine ⟨fun h => (by cases h), fun j hj => ?_⟩
  rw [List.mem_singleton] at hj
  subst hj
  unfold wpOp
  rw [at_drop hi]
  dsimp only
  rw [if_pos hw]
  refine Or.inl ?_
  unfold Oper.wp
  obtain ⟨v, y, h1, h2⟩ := h x hx
  rw [h1]
  exact h2
theorem wpR_done {l : Array Bool} {a : Act} {w : World} (hr : Region.ready md ops l = []) (h : ∀ x, R w x → Q .normal a x) : ∀ n, wpR R P md ops Q n l a w
  | 0 => ⟨hr, h⟩
  | _ + 1 => fun x hx => ⟨fun _ => h x hx, by rw [hr]; simp⟩
theorem wp_region_R (R : World → World → Prop) (HR : Pre9 R) {id : Nat} {a : Act} {w : World} (hm : P.follows .mixedOrders = true) (h : wpR R P .any ops Q ops.size (Array.replicate ops.size false) a w.drew) : (Code.region id ops true).wp P Q a w :=
  wp_region_any hm (wpAny_of_R HR _ _ _ _ h)
end
end Go.Proofs.Ytcnjjbgilpgceaa
