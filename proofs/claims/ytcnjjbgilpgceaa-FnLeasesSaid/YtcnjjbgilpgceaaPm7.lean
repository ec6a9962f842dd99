/- Texts of ours, laid one behind the other: LtC, OwC, LtD, LtT, LtE, LtF, GrwE. -/
import Derived.Test.YtcnjjbgilpgceaaPm6
import Derived.Laws.MakeOwn
import Derived.Deep.AppendLies
import Derived.Recover
import Derived.Laws.IdiomCopy
import Derived.Shelf.Spec.SlicesInsert
import Derived.Lib.AppendZerosOnto
import Derived.Laws.NewBlocks
/- LtC: The program's own table of leases: made, told, asked, renewed. -/
namespace Go.Proofs.Ytcnjjbgilpgceaa
set_option maxRecDepth 100000
open Go.RowKit BigFrame
attribute [local go_sem ↓] Go.wp_at_zero Go.wp_at_succ

theorem eqgLease (x y : Operand) (a : Option Addr) (n c : Nat) (W : World) : Sem.run Try.prog (eqGuard BinOp.eql 24 x y (.slice a n c) (.slice none 0 0)) W = .ok () W := by
  cases a <;> kernel_rfl
theorem eqNoneLease (n c : Nat) (W : World) : Sem.run Try.prog (binOp BinOp.eql 24 (.slice none n c) (.slice none 0 0)) W = .ok (.bool true) W := by kernel_rfl
theorem eqSomeLease (q : Addr) (n c : Nat) (W : World) : Sem.run Try.prog (binOp BinOp.eql 24 (.slice (some q) n c) (.slice none 0 0)) W = .ok (.bool false) W := by kernel_rfl
attribute [local go_sem] eqgLease eqNoneLease eqSomeLease
/-- A row of leases is copied. -/
def cloneLPost (L : List Value) (n : Nat) (w : World) (e : Ending) (w' : World) : Prop := ∃ (a : Option Addr) (c : Nat), e = .returned (.slice a n c) ∧ w'.ownsRow w.heap.size 35 3 (.slice a n c) n L ∧ Below w.heap.size w w'
set_option maxRecDepth 100000 in
set_option maxHeartbeats 1000000 in
theorem cloneL_any {w : World} {a : Option Addr} {n cap : Nat} {ps : List LsM} (h : CRow w a (lsS ps)) (hn : n = ps.length) (hl : n ≤ 1048576) : Calls Try.prog 55 #[.slice a n cap] w fun e w' => cloneLPost (lsS ps) n w e w' := by
  have hv : ∀ u ∈ lsS ps, u.oneCell' = true := lss_one ps
  have hL : (lsS ps).length = n * 3 := by rw [lsS_len, hn]
  have HV := Shut.mk hv
  generalize lsS ps = L at h HV hL ⊢
  clear hn hv
  obtain ⟨j0, hjn, hy0, hy1, hy2⟩ := info_parts infoLease
  have HL := Shut.mk hL
  clear hL
  rcases Nat.eq_zero_or_pos n with h0 | hp
  · have hL0 : L = [] := List.eq_nil_of_length_eq_zero (by rw [HL.out, h0, Nat.zero_mul])
    subst h0
    subst hL0
    clear h
    cases a with
    | none =>
      go_enter Try.func55, Try.ntmps55
      go_wp2_with fail
      go_ret
      exact ⟨none, 0, rfl, World.ownsRow_nil w w.heap.size 35 3, Below.refl _ _⟩
    | some q =>
      have hap : ∀ (W : World) (g : Addr), ∀ ty, (Builtin.append_ #[24, 24] ty #[.slice (some g) 0 0, .slice (some q) 0 cap]).run Try.prog W = .ok (.slice (some g) 0 0) W := fun W g ty =>
        run_append_nothing W _ _ _ _ j0 Try.underlying24 hjn (some g) 0 0 (Nat.le_refl _) _ (Src.ofSlice W Try.underlying24 q 0 cap [] (by simp) (by simp) (by simp))
      have HAP := Shut.mk hap
      clear hap
      go_enter Try.func55, Try.ntmps55
      go_wp2_with (at_builtin; refine wpList_append_nothing _ rfl _ _ 24 rfl _ _ rfl rfl (HAP.out _ _) ?_)
      go_ret
      exact ⟨some ⟨w.heap.size, 0, none⟩, 0, rfl, World.ownsRow_made (e := 35) (size := 3) (base := w.heap.size) w #[] 0 (Nat.le_refl _) (by decide) rfl, (Below.refl _ _).alloc (Nat.le_refl _) _⟩
  · have hLp : 0 < L.length := by rw [HL.out]; omega
    obtain ⟨pb, poff, rfl, lpb, hpc⟩ := h hLp
    have HPC := Shut.mk hpc
    clear hpc h hLp
    go_enter Try.func55, Try.ntmps55
    have hmade := World.ownsRow_made (e := 35) (size := 3) (base := w.heap.size) w #[] 0 (Nat.le_refl _) (by decide) rfl
    go_wp2_with (at_builtin; refine wpList_append_own _ rfl _ _ 24 rfl w.heap.size 35 j0 _ 3 32 Try.underlying24 hjn hy0 hy1 hy2 rfl (by decide) _ 0 [] rfl hmade ⟨pb, poff, none⟩ n cap L rfl ?c0 ?c1 ?c2 ?c3 ?c4 ?c5 ?_)
    case c0 => first | exact HL.out | (rw [HL.out]; omega)
    case c1 =>
      intro i u hu
      have e : (⟨pb, poff, none⟩ : Addr).add i = ⟨pb, poff + i, none⟩ := by cases i <;> simp [Addr.add]
      rw [e, ← HPC.out i u hu]
      exact ((Below.refl w.heap.size w).alloc (Nat.le_refl _) _).cell (p := ⟨pb, poff + i, none⟩) lpb
    case c2 => exact HV.out
    case c3 => unfold maxLen; omega
    case c4 => omega
    case c5 => simp
    intro v' w10 ho10 hgrow _
    obtain ⟨a9, c9, rfl⟩ := own_row_slice ho10
    have HO := Shut.mk ho10
    have HB : Shut (Below w.heap.size w w10) := ⟨((Below.refl w.heap.size w).alloc (Nat.le_refl _) _).grown hgrow (by simp) (fun j hj => by cases hj; exact Nat.le_refl _)⟩
    clear ho10 hgrow hmade
    go_wp2_with fail
    go_ret
    exact ⟨a9, c9, rfl, HO.out, HB.out⟩
/-- The table: its lock, free or held, and its row. -/
abbrev tbS (tb : Nat) (s : Int) (v : Value) : Str := bxS tb [.int .i32 s, .int .u32 0, v]
set_option maxRecDepth 100000 in
theorem implTableOf (us : List LsM) (a : Option Addr) (cap : Nat) (w : World) (hr : LsRow w a us) (hl : us.length ≤ 1048576) :
    Calls Try.prog 38 #[.slice a us.length cap] w fun e w' => ∃ tb v, e = .returned (.pointer (some ⟨tb, 0, none⟩)) ∧ OwS w w' [tbS tb 0 v] 35 3 v us.length (lsS us) := by
  have HC := Shut.mk (cloneL_any (cap := cap) hr rfl hl)
  unfold cloneLPost at HC
  generalize us.length = n at HC ⊢
  clear hr hl
  go_enter Try.func38, Try.ntmps38
  go_wp2_with (go_at_call 55; refine HC.out.mono ?_; rintro e w1 ⟨a1, c1, rfl, ho, hb⟩; have HO := Shut.mk ((⟨(SL.start w).below hb, ho, fun _ _ _ h => by cases h⟩ : OwS w w1 [] 35 3 (.slice a1 n c1) n (lsS us)).box #[.int .i32 0, .int .u32 0, .slice a1 n c1] 84); clear ho hb)
  go_ret
  exact ⟨_, _, rfl, HO.out⟩
set_option maxRecDepth 100000 in
set_option maxHeartbeats 4000000 in
theorem implTold {w0 W : World} {tb n : Nat} {v : Value} {L : List LsM} (h : OwS w0 W [tbS tb 0 v] 35 3 v n (lsS L)) (hn : n = L.length) (hl : n ≤ 3000000) (hz : ∀ u ∈ L, u.path.size ≤ 1048576) :
    Calls Try.prog 40 #[.pointer (some ⟨tb, 0, none⟩)] W fun e W' => LsPost L w0 e W' := by
  obtain ⟨i0, hin, hz0, hz1, hz2⟩ := info_parts infoLease
  obtain ⟨av, cv, rfl⟩ := own_row_slice h.own
  obtain ⟨x0, z0⟩ := h.sl.bx 0 rfl 0 _ rfl
  have hB0 : w0.heap.size ≤ tb := (h.sl.is _ (List.mem_cons_self ..)).2.2.1
  have HW1 := Shut.mk (h.put 0 rfl 0 (.int .i32 1) (by simp))
  simp only [List.set_cons_zero] at HW1
  have HN := Shut.mk hn
  have HZ := Shut.mk hz
  clear h hz hn
  go_enter_defers Try.func40, Try.ntmps40
  go_upto_region 3 with (go_at_call 56; refine (Go.MuLone.lock_free muLib ⟨tb, 0, none⟩ _ x0 z0).mono ?_; rintro e w1 ⟨rfl, rfl⟩)
  refine wp_shade (fun V => OwS w0 V [tbS tb 1 (.slice av n cv)] 35 3 (.slice av n cv) n (lsS L)) HW1.out ?_
  intro W1 hW1
  have H1 := Shut.mk hW1
  have HR1 := Shut.mk (FRw.of_own hW1.own).1.crow
  have ltb : tb < W1.heap.size := (hW1.sl.at 0 rfl).1
  clear HW1 hW1 x0 z0
  obtain ⟨W2, hmk, hown, hgr⟩ := run_make_own (P := Try.prog) W1 W1.heap.size 24 35 i0 _ 3 Try.underlying24 hin hz0 hz1 .i64 .i64 n (by rw [hz2]; omega) (by unfold maxLen; omega) (Nat.le_refl _)
  have HO := Shut.mk (OwS.more (OwS.nil (ty := 35) (sz := 3) (SL.start W1)) (Below.refl _ _) hown hgr (.inr rfl))
  have y2 := (H1.out.sl.bx 0 rfl 2 _ rfl).1
  have z2 : W2.cell? ⟨tb, 2, none⟩ = some (.slice av n cv) := (HO.out.sl.bel.cell (p := ⟨tb, 2, none⟩) ltb).trans y2
  obtain ⟨g0, hg0⟩ : ∃ q, q = W1.heap.size := ⟨_, rfl⟩
  clear hown hgr
  go_wp2_with fail
  clear y2 z2 hmk hg0 g0
  go_loopw [3, 24] (fun v9 i9 wr => ∃ (k : Nat), i9 = .int .i64 k ∧ k ≤ n ∧ Shut (OwS W1 wr [] 35 3 v9 k (lsS (L.take k)))) (fun _ i9 _ => n - (intOf i9).toNat)
  case atStart => exact ⟨0, rfl, Nat.zero_le _, HO⟩
  case round =>
    clear HO
    obtain ⟨k, rfl, hk, HW⟩ := hrel
    obtain ⟨av9, cv9, rfl⟩ := own_row_slice HW.out.own
    by_cases hlt : k < n
    · have hku : k < L.length := by rw [← HN.out]; exact hlt
      obtain ⟨b, off, u, rfl, hu, lb, hc⟩ := ls_at HR1.out HW.out.sl.bel hku
      obtain ⟨d0, d1, d2⟩ := hc wr (Below.refl _ _)
      have k0 : (0 : Int) ≤ (k : Int) := by omega
      have k1 : (k : Int) < (n : Int) := by omega
      have HUT : Shut (u.path.size ≤ 1048576) := ⟨by rw [hu]; exact HZ.out _ (List.getElem_mem hku)⟩
      have HNX : Shut (lsS (L.take (k + 1)) = lsS (L.take k) ++ [.string u.path, .int .i64 u.who, .int .i64 u.seen]) := ⟨by rw [List.take_succ_eq_append_getElem hku, ← hu, lss_snoc]; rfl⟩
      have HX := Shut.mk (HW.out.box #[.string u.path, .int .i64 u.who, .int .i64 u.seen] 35)
      obtain ⟨bb, hbb⟩ : ∃ q, q = wr.heap.size := ⟨_, rfl⟩
      rw [← hbb] at HX
      clear hc hu
      go_upto_region 7 with fail
      refine wp_shade (fun W => OwS W1 W (bxS bb [.string u.path, .int .i64 u.who, .int .i64 u.seen] :: []) 35 3 (.slice av9 k cv9) k (lsS (L.take k))) HX.out ?_
      intro W3 hW
      rw [← hbb]
      have H2 := Shut.mk hW
      clear hW HX hbb d0 d1 d2 HW
      have z0 := (H2.out.sl.bx 0 rfl 0 _ rfl).1
      go_upto_region 8 with (go_at_call 61; refine (implClone u.path _ (by have := HUT.out; omega)).mono ?_; rintro e w3 ⟨rfl, hb⟩; have H3 := Shut.mk (H2.out.below hb); obtain ⟨y2, y2z⟩ := H3.out.sl.bx 0 rfl 0 _ rfl; clear hb z0 H2)
      have H4 := Shut.mk (H3.out.put 0 rfl 0 (.string u.path) (by simp))
      simp only [List.set_cons_zero] at H4
      refine wp_shade (fun W => OwS W1 W (bxS bb [.string u.path, .int .i64 u.who, .int .i64 u.seen] :: []) 35 3 (.slice av9 k cv9) k (lsS (L.take k))) H4.out ?_
      intro W4 hW
      have H5 := Shut.mk hW
      clear hW H4 H3 y2 y2z
      have z0 := (H5.out.sl.bx 0 rfl 0 _ rfl).1
      have z1 := (H5.out.sl.bx 0 rfl 1 _ rfl).1
      have z2 := (H5.out.sl.bx 0 rfl 2 _ rfl).1
      have lz : bb < W4.heap.size := (show WCells W4 bb _ from H5.out.sl.at 0 rfl).1
      have hown := H5.out.own
      have hbs := H5.out.sl.bel.size
      go_wp2_with (at_builtin; refine wpList_append_own_at _ rfl _ _ 24 rfl W1.heap.size 35 i0 _ 3 32 Try.underlying24 hin hz0 hz1 hz2 rfl (by decide) _ _ _ rfl (hown.alloc _) ⟨W4.heap.size, 0, none⟩ 1 1 [.string u.path, .int .i64 u.who, .int .i64 u.seen] rfl rfl (World.news_of_block (cs := #[.string u.path, .int .i64 u.who, .int .i64 u.seen]) (t := 35) (fr := (0, 0)) (heap_alloc_new W4 _)) ?c2 ?c3 ?c4 ?c5 ?_)
      case c2 => simp [Value.oneCell']
      case c3 => unfold maxLen; omega
      case c4 => omega
      case c5 => first | omega | (simp; omega)
      intro v9 w9 ho hg _ hat
      have HL9 := Shut.mk (H5.out.more ((Below.refl _ _).alloc (Nat.le_refl _) _) ho hg (by simpa using hat)).tail
      rw [← HNX.out] at HL9
      clear ho hg hat hown hbs z0 z1 z2 lz H5
      go_wp2_with fail
      go_roundw
      case rel => exact ⟨k + 1, by go_num, by omega, HL9⟩
      case measure => simp [intOf]; omega
    · obtain rfl : k = n := by omega
      rw [List.take_of_length_le (by have := HN.out; omega)] at HW
      obtain ⟨q0, q1⟩ := H1.out.sl.bx 0 rfl 0 _ rfl
      have r0 := (HW.out.sl.bel.cell (p := ⟨tb, 0, none⟩) ltb).trans q0
      have r1 := (HW.out.sl.bel.frozen (p := ⟨tb, 0, none⟩) ltb).trans q1
      obtain ⟨a8, c8, e8, hf8, hc8⟩ := HW.out.frw
      obtain ⟨rfl, rfl⟩ : av9 = a8 ∧ cv9 = c8 := by simpa using e8
      have HF := Shut.mk (rwS.loc av9 (lsS L) W1.heap.size wr.heap.size wr (wr.setCell ⟨tb, 0, none⟩ (.int .i32 0)) tb (tb + 1) hf8 (Turned.of_grown (gb_set' wr tb 0 _) (Nat.le_refl _) (Nat.lt_succ_self _)) (.inr ltb))
      have HB := Shut.mk ((H1.out.sl.bel.trans (HW.out.sl.bel.mono H1.out.sl.bel.size)).setCell (p := ⟨tb, 0, none⟩) hB0 (.int .i32 0))
      clear hf8 e8 q0 q1
      go_wp2_with fail
      refine leaves_cons (f := 57) (args := #[.pointer (some ⟨tb, 0, none⟩)]) (by simp) (by simp [go_sem]) ?_
      refine (Go.MuLone.unlock_deferred muLib ⟨tb, 0, none⟩ .returning _ r0 r1).mono ?_
      rintro e u' w'' ⟨rfl, rfl, rfl⟩
      exact ⟨_, results_tmp rfl _ _ _, av9, cv9, by rw [HN.out]; rfl, frw_wide9 HF.out H1.out.sl.bel.size (by simp [World.setCell]), by rw [← HN.out]; exact hc8, HB.out⟩
/-- The lock is given back at the door. -/
theorem at_door {w0 W1 wr : World} {tb : Nat} {v : Value} {n : Nat} {X : List Value} (h : OwS w0 W1 [tbS tb 1 v] 35 3 v n X) (hb : Below W1.heap.size W1 wr) : wr.cell? ⟨tb, 0, none⟩ = some (.int .i32 1) ∧ wr.frozen? ⟨tb, 0, none⟩ = false ∧ Below w0.heap.size w0 (wr.setCell ⟨tb, 0, none⟩ (.int .i32 0)) := by
  have ltb : tb < W1.heap.size := (h.sl.at 0 rfl).1
  have hB0 : w0.heap.size ≤ tb := (h.sl.is _ (List.mem_cons_self ..)).2.2.1
  obtain ⟨q0, q1⟩ := h.sl.bx 0 rfl 0 _ rfl
  exact ⟨(hb.cell (p := ⟨tb, 0, none⟩) ltb).trans q0, (hb.frozen (p := ⟨tb, 0, none⟩) ltb).trans q1, (h.sl.bel.trans (hb.mono h.sl.bel.size)).setCell (p := ⟨tb, 0, none⟩) hB0 (.int .i32 0)⟩
set_option maxRecDepth 100000 in
set_option maxHeartbeats 4000000 in
theorem implHolder {w0 W : World} {tb n : Nat} {v : Value} {L : List LsM} (h : OwS w0 W [tbS tb 0 v] 35 3 v n (lsS L)) (hn : n = L.length) (hl : n ≤ 3000000) (p : ByteArray) :
    Calls Try.prog 44 #[.pointer (some ⟨tb, 0, none⟩), .string p] W fun e W' => e = .returned (.int .i64 (holderX L p)) ∧ Below w0.heap.size w0 W' := by
  obtain ⟨av, cv, rfl⟩ := own_row_slice h.own
  obtain ⟨x0, z0⟩ := h.sl.bx 0 rfl 0 _ rfl
  have HW1 := Shut.mk (h.put 0 rfl 0 (.int .i32 1) (by simp))
  simp only [List.set_cons_zero] at HW1
  have HN := Shut.mk hn
  obtain ⟨R, hR⟩ : ∃ R, R = holderX L p := ⟨_, rfl⟩
  rw [← hR]
  have HQ := Shut.mk hR
  clear h hn hR
  go_enter_defers Try.func44, Try.ntmps44
  go_upto_region 3 with (go_at_call 56; refine (Go.MuLone.lock_free muLib ⟨tb, 0, none⟩ _ x0 z0).mono ?_; rintro e w1 ⟨rfl, rfl⟩)
  refine wp_shade (fun V => OwS w0 V [tbS tb 1 (.slice av n cv)] 35 3 (.slice av n cv) n (lsS L)) HW1.out ?_
  intro W1 hW1
  have H1 := Shut.mk hW1
  have HR1 := Shut.mk (FRw.of_own hW1.own).1.crow
  clear HW1 hW1 x0 z0
  have y2 := (H1.out.sl.bx 0 rfl 2 _ rfl).1
  go_wp2_with fail
  clear y2
  go_loopw [19] (fun i9 wr => ∃ (k : Nat), i9 = .int .i64 k ∧ k ≤ n ∧ Shut (∀ j (hj : j < L.length), j < k → (L[j].path.toList == p.toList) = false) ∧ Shut (Below W1.heap.size W1 wr)) (fun i9 _ => n - (intOf i9).toNat)
  case atStart => exact ⟨0, rfl, Nat.zero_le _, ⟨fun j _ hj => by omega⟩, ⟨Below.refl _ _⟩⟩
  case round =>
    obtain ⟨k, rfl, hk, HG, HW⟩ := hrel
    by_cases hlt : k < n
    · have hku : k < L.length := by rw [← HN.out]; exact hlt
      obtain ⟨b, off, u, rfl, hu, lb, hc⟩ := ls_at HR1.out HW.out hku
      obtain ⟨d0, d1, d2⟩ := hc wr (Below.refl _ _)
      have k0 : (0 : Int) ≤ (k : Int) := by omega
      have k1 : (k : Int) < (n : Int) := by omega
      have lbw : b < wr.heap.size := Nat.lt_of_lt_of_le lb HW.out.size
      have HNX : Shut ((u.path.toList == p.toList) = false → ∀ j (hj : j < L.length), j < k + 1 → (L[j].path.toList == p.toList) = false) := ⟨fun h j hj hjk => by
        rcases Nat.lt_succ_iff_lt_or_eq.1 hjk with e | e
        · exact HG.out j hj e
        · subst e; rw [← hu]; exact h⟩
      have HYS : Shut ((u.path.toList == p.toList) = true → R = u.who) := ⟨fun h => by
        rw [HQ.out]
        unfold holderX
        rw [lsIdx_found hku (by rw [← hu]; exact h) HG.out, if_pos hku, getD_ls L k hku, ← hu]⟩
      have HX : Shut (SL wr (wr.alloc (.cells #[.string u.path, .int .i64 u.who, .int .i64 u.seen] 35)) [bxS wr.heap.size [.string u.path, .int .i64 u.who, .int .i64 u.seen]]) := ⟨(SL.start wr).new #[.string u.path, .int .i64 u.who, .int .i64 u.seen] 35⟩
      have HBX : Shut (Below W1.heap.size W1 (wr.alloc (.cells #[.string u.path, .int .i64 u.who, .int .i64 u.seen] 35))) := ⟨HW.out.trans ((Below.refl wr.heap.size wr).alloc (Nat.le_refl _) _ |>.mono HW.out.size)⟩
      clear hc hu
      go_upto_region 6 with fail
      refine wp_shade (fun W => SL wr W [bxS wr.heap.size [.string u.path, .int .i64 u.who, .int .i64 u.seen]] ∧ Below W1.heap.size W1 W) ⟨HX.out, HBX.out⟩ ?_
      rintro W3 ⟨hW3, hb3⟩
      have H3 := Shut.mk hW3
      have HB3 := Shut.mk hb3
      have z0 := (H3.out.bx 0 rfl 0 _ rfl).1
      have z1 := (H3.out.bx 0 rfl 1 _ rfl).1
      clear hW3 hb3 HX HBX d0 d1 d2 HW lbw
      cases hq : (u.path.toList == p.toList) with
      | false =>
        have HX2 := Shut.mk (HNX.out hq)
        go_wp2_with fail
        go_roundw
        case rel => exact ⟨k + 1, by go_num, by omega, HX2, HB3⟩
        case measure => simp [intOf]; omega
      | true =>
        have HE : Shut (R = u.who) := ⟨HYS.out hq⟩
        obtain ⟨r0, r1, r2⟩ := at_door H1.out HB3.out
        have HB9 := Shut.mk r2
        clear r2
        go_wp2_with fail
        refine leaves_cons (f := 57) (args := #[.pointer (some ⟨tb, 0, none⟩)]) (by simp) (by simp [go_sem]) ?_
        refine (Go.MuLone.unlock_deferred muLib ⟨tb, 0, none⟩ .returning _ r0 r1).mono ?_
        rintro e u' w'' ⟨rfl, rfl, rfl⟩
        exact ⟨_, results_tmp rfl _ _ _, by rw [HE.out]; rfl, HB9.out⟩
    · obtain rfl : n = k := by omega
      have HE : Shut (R = 0) := ⟨by
        rw [HQ.out]
        unfold holderX
        rw [lsIdx_none fun j hj => HG.out j hj (by have := HN.out; omega), if_neg (Nat.lt_irrefl _)]⟩
      obtain ⟨r0, r1, r2⟩ := at_door H1.out HW.out
      have HB9 := Shut.mk r2
      clear r2
      go_wp2_with fail
      refine leaves_cons (f := 57) (args := #[.pointer (some ⟨tb, 0, none⟩)]) (by simp) (by simp [go_sem]) ?_
      refine (Go.MuLone.unlock_deferred muLib ⟨tb, 0, none⟩ .returning _ r0 r1).mono ?_
      rintro e u' w'' ⟨rfl, rfl, rfl⟩
      exact ⟨_, results_tmp rfl _ _ _, by rw [HE.out]; rfl, HB9.out⟩
end Go.Proofs.Ytcnjjbgilpgceaa
/- OwC: A row of one's own beside stretches: its cells are set; it is made shorter, and longer within its room. -/
namespace Go.Proofs.Ytcnjjbgilpgceaa
set_option maxRecDepth 100000
open Go.RowKit

/-- A cell of a row of one's own is set. -/
theorem OwS.cell {w0 W : World} {S : List Str} {ty sz g n c : Nat} {L : List Value} (h : OwS w0 W S ty sz (.slice (some ⟨g, 0, none⟩) n c) n L) (j : Nat) (u : Value) : OwS w0 (W.setCell ⟨g, j, none⟩ u) S ty sz (.slice (some ⟨g, 0, none⟩) n c) n (L.set j u) := by
  have q := h.own.stored j u
  have e : (Value.slice (some ⟨g, 0, none⟩) n c).ownBlock = some g := rfl
  exact ⟨h.sl.grown q.2 fun k hk => by cases hk; exact ⟨(h.lt g e).1, h.far g e⟩, q.1, h.far⟩
theorem OwS.drew {w0 W : World} {S : List Str} {ty sz n : Nat} {v : Value} {L : List Value} (h : OwS w0 W S ty sz v n L) : OwS w0 W.drew S ty sz v n L := h.below (Below.drew (Below.refl _ _))
theorem OwS.sets {w0 : World} {S : List Str} {ty sz g n c : Nat} : ∀ (vs : List Value) (o : Nat) (W : World) (L : List Value), OwS w0 W S ty sz (.slice (some ⟨g, 0, none⟩) n c) n L → OwS w0 (W.setCells g o vs) S ty sz (.slice (some ⟨g, 0, none⟩) n c) n (setL L o vs)
  | [], _, _, _, h => h
  | v :: vs, o, _, _, h => OwS.sets vs (o + 1) _ _ (h.cell o v)
/-- What is behind it may be set. -/
theorem OwS.past {w0 : World} {S : List Str} {ty sz g n c : Nat} : ∀ (vs : List Value) (o : Nat) (W : World) (L : List Value), OwS w0 W S ty sz (.slice (some ⟨g, 0, none⟩) n c) n L → L.length ≤ o → OwS w0 (W.setCells g o vs) S ty sz (.slice (some ⟨g, 0, none⟩) n c) n L
  | [], _, _, _, h, _ => h
  | v :: vs, o, _, _, h, ho => by
    have h1 := h.cell o v
    rw [List.set_eq_of_length_le ho] at h1
    exact OwS.past vs (o + 1) _ _ h1 (by omega)
theorem OwS.shorter {w0 W : World} {S : List Str} {ty sz g n m c : Nat} {L : List Value} (h : OwS w0 W S ty sz (.slice (some ⟨g, 0, none⟩) n c) n L) (hm : m ≤ n) : OwS w0 W S ty sz (.slice (some ⟨g, 0, none⟩) m c) m (L.take (m * sz)) := by
  refine ⟨h.sl, ?_, h.far⟩
  obtain ⟨hL, h2⟩ := h.own
  rcases h2 with ⟨h', _⟩ | ⟨g', cap', cur, h', hb, hg, hnc, hcm, hcs, htake⟩
  · simp at h'
  · simp only [Value.slice.injEq, Option.some.injEq, Addr.mk.injEq, and_true, true_and] at h'
    obtain ⟨rfl, rfl⟩ := h'
    have hle : m * sz ≤ n * sz := Nat.mul_le_mul_right _ hm
    refine ⟨by rw [List.length_take, hL]; omega, .inr ⟨g, c, cur, rfl, hb, hg, by omega, hcm, hcs, ?_⟩⟩
    rw [← htake, List.take_take, Nat.min_eq_left hle]
/-- It is longer within its room: what comes behind is not known. -/
theorem OwS.longer {w0 W : World} {S : List Str} {ty sz g n m c : Nat} {L : List Value} (h : OwS w0 W S ty sz (.slice (some ⟨g, 0, none⟩) n c) n L) (hn : n ≤ m) (hm : m ≤ c) : ∃ R, OwS w0 W S ty sz (.slice (some ⟨g, 0, none⟩) m c) m (L ++ R) ∧ (L ++ R).length = m * sz := by
  obtain ⟨hL, h2⟩ := h.own
  rcases h2 with ⟨h', _⟩ | ⟨g', cap', cur, h', hb, hg, hnc, hcm, hcs, htake⟩
  · simp at h'
  · simp only [Value.slice.injEq, Option.some.injEq, Addr.mk.injEq, and_true, true_and] at h'
    obtain ⟨rfl, rfl⟩ := h'
    have hle : n * sz ≤ m * sz := Nat.mul_le_mul_right _ hn
    have hlc : m * sz ≤ c * sz := Nat.mul_le_mul_right _ hm
    have hcl : cur.toList.length = c * sz := by rw [Array.length_toList, hcs]
    have e : L ++ (cur.toList.take (m * sz)).drop (n * sz) = cur.toList.take (m * sz) := by
      conv => rhs; rw [← List.take_append_drop (n * sz) (cur.toList.take (m * sz))]
      rw [List.take_take, Nat.min_eq_left hle, htake]
    have hl : (cur.toList.take (m * sz)).length = m * sz := by rw [List.length_take, hcl]; omega
    exact ⟨(cur.toList.take (m * sz)).drop (n * sz), by rw [e]; exact ⟨h.sl, ⟨hl, .inr ⟨g, c, cur, rfl, hb, hg, hm, hcm, hcs, rfl⟩⟩, h.far⟩, by rw [e]; exact hl⟩
end Go.Proofs.Ytcnjjbgilpgceaa
/- LtD: The program's own table of leases: renewed; what is old is told. -/
namespace Go.Proofs.Ytcnjjbgilpgceaa
set_option maxRecDepth 100000
open Go.RowKit BigFrame
attribute [local go_sem ↓] Go.wp_at_zero Go.wp_at_succ

/-- The lock is given back at the door, the table stays. -/
theorem at_door2 {w0 wr : World} {tb : Nat} {v : Value} {n : Nat} {X : List Value} {S : List Str} (h : OwS w0 wr (tbS tb 1 v :: S) 35 3 v n X) : wr.cell? ⟨tb, 0, none⟩ = some (.int .i32 1) ∧ wr.frozen? ⟨tb, 0, none⟩ = false ∧ OwS w0 (wr.setCell ⟨tb, 0, none⟩ (.int .i32 0)) (tbS tb 0 v :: S) 35 3 v n X := by
  obtain ⟨q0, q1⟩ := h.sl.bx 0 rfl 0 _ rfl
  have q2 := h.put 0 rfl 0 (.int .i32 0) (by simp)
  simp only [List.set_cons_zero] at q2
  exact ⟨q0, q1, q2⟩
theorem seen_all (us : List LsM) (who now : Int) : (us.map fun f => if f.who = who then (⟨f.path, f.who, now⟩ : LsM) else f) = renewX us who now := rfl
set_option maxRecDepth 100000 in
set_option maxHeartbeats 4000000 in
theorem implRenewT {w0 W : World} {tb n : Nat} {v : Value} {us : List LsM} (h : OwS w0 W [tbS tb 0 v] 35 3 v n (lsS us)) (hn : n = us.length) (hl : n ≤ 3000000) (who now : Int) :
    Calls Try.prog 41 #[.pointer (some ⟨tb, 0, none⟩), .int .i64 who, .int .i64 now] W fun e W' => e = .returned (.tuple #[]) ∧ OwS w0 W' [tbS tb 0 v] 35 3 v n (lsS (renewX us who now)) := by
  obtain ⟨av, cv, rfl⟩ := own_row_slice h.own
  obtain ⟨x0, z0⟩ := h.sl.bx 0 rfl 0 _ rfl
  have HW1 := Shut.mk (h.put 0 rfl 0 (.int .i32 1) (by simp))
  simp only [List.set_cons_zero] at HW1
  have HN := Shut.mk hn
  clear h hn
  go_enter_defers Try.func41, Try.ntmps41
  go_upto_region 2 with (go_at_call 56; refine (Go.MuLone.lock_free muLib ⟨tb, 0, none⟩ _ x0 z0).mono ?_; rintro e w1 ⟨rfl, rfl⟩)
  refine wp_shade (fun V => OwS w0 V [tbS tb 1 (.slice av n cv)] 35 3 (.slice av n cv) n (lsS us)) HW1.out ?_
  intro W1 hW1
  have H := Shut.mk hW1
  have y2 := (H.out.sl.bx 0 rfl 2 _ rfl).1
  clear HW1 hW1 x0 z0
  go_wp2_with fail
  clear y2
  go_loopw [6, 19] (fun _ i wr => ∃ (k : Nat) (L : List LsM), i = .int .i64 k ∧ k ≤ n ∧ Shut (L = (us.take k).map (fun f => if f.who = who then ⟨f.path, f.who, now⟩ else f) ++ us.drop k) ∧ Shut (OwS w0 wr [tbS tb 1 (.slice av n cv)] 35 3 (.slice av n cv) n (lsS L))) (fun _ i _ => n - (intOf i).toNat)
  case atStart => exact ⟨0, us, rfl, Nat.zero_le _, ⟨by simp⟩, H⟩
  case round =>
    clear H
    obtain ⟨k, L, rfl, hk, HL, H⟩ := hrel
    have HLL : Shut (L.length = n) := ⟨by rw [HL.out, List.length_append, List.length_map, List.length_take, List.length_drop, ← HN.out]; omega⟩
    by_cases hlt : k < n
    · have hku : k < us.length := by rw [← HN.out]; exact hlt
      have hkl : k < L.length := by rw [HLL.out]; exact hlt
      obtain ⟨g, rfl, g1, g2, hw⟩ := frw_row (FRw.of_own H.out.own).1 hkl
      obtain ⟨p1, z1⟩ := hw.2 (k * 3 + 1) _ (flat_get lsC_len L k hkl 1 (by omega))
      obtain ⟨p2, z2⟩ := hw.2 (k * 3 + 2) _ (flat_get lsC_len L k hkl 2 (by omega))
      have eK : L[k] = us[k] := by
        have e : L[k]? = us[k]? := by rw [HL.out, List.getElem?_append_right (by simp; omega), List.length_map, List.length_take, Nat.min_eq_left (by omega), List.getElem?_drop]; congr 1; omega
        rw [List.getElem?_eq_getElem hkl, List.getElem?_eq_getElem hku] at e
        exact Option.some.inj e
      have HNX : Shut (L.set k (if us[k].who = who then ⟨us[k].path, us[k].who, now⟩ else us[k]) = (us.take (k + 1)).map (fun f => if f.who = who then ⟨f.path, f.who, now⟩ else f) ++ us.drop (k + 1)) := ⟨by
        rw [HL.out, List.set_append_right _ _ (by simp; omega), List.length_map, List.length_take, Nat.min_eq_left (by omega), Nat.sub_self, List.take_succ_eq_append_getElem hku, List.map_append, List.append_assoc, List.drop_eq_getElem_cons hku]
        rfl⟩
      have HT := Shut.mk (H.out.cell (k * 3 + 2) (.int .i64 now))
      rw [lss_seen L k hkl now, eK] at HT
      have HSM : Shut (L.set k us[k] = L) := ⟨by rw [← eK]; exact List.set_getElem_self hkl⟩
      rw [eK] at p1 p2
      obtain ⟨u, hu⟩ : ∃ u, u = us[k] := ⟨_, rfl⟩
      rw [← hu] at p1 p2 HNX HT HSM
      have k0 : (0 : Int) ≤ (k : Int) := by omega
      have k1 : (k : Int) < (n : Int) := by omega
      have y2 := (H.out.sl.bx 0 rfl 2 _ rfl).1
      clear eK hu hw g1 g2
      by_cases hwh : u.who = who
      · have hb : (u.who == who) = true := by simpa using hwh
        rw [if_pos hwh] at HNX
        clear hwh
        go_wp2_with fail
        go_roundw
        case rel => exact ⟨k + 1, _, by go_num, by omega, HNX, HT⟩
        case measure => simp [intOf]; omega
      · have hb : (u.who == who) = false := by simpa using hwh
        rw [if_neg hwh, HSM.out] at HNX
        clear hwh
        go_wp2_with fail
        go_roundw
        case rel => exact ⟨k + 1, _, by go_num, by omega, HNX, H⟩
        case measure => simp [intOf]; omega
    · obtain rfl : n = k := by omega
      have HE : Shut (L = renewX us who now) := ⟨by rw [HL.out, List.take_of_length_le (by have := HN.out; omega), List.drop_of_length_le (by have := HN.out; omega), List.append_nil]; rfl⟩
      obtain ⟨r0, r1, r2⟩ := at_door2 H.out
      rw [HE.out] at r2
      have HR := Shut.mk r2
      clear r2
      go_wp2_with fail
      refine leaves_cons (f := 57) (args := #[.pointer (some ⟨tb, 0, none⟩)]) (by simp) (by simp [go_sem]) ?_
      refine (Go.MuLone.unlock_deferred muLib ⟨tb, 0, none⟩ .returning _ r0 r1).mono ?_
      rintro e u' w'' ⟨rfl, rfl, rfl⟩
      exact ⟨_, results_none rfl _ _ _, rfl, HR.out⟩
set_option maxRecDepth 100000 in
set_option maxHeartbeats 4000000 in
theorem implExpiredT {w0 W : World} {tb n : Nat} {v : Value} {L : List LsM} (h : OwS w0 W [tbS tb 0 v] 35 3 v n (lsS L)) (hn : n = L.length) (hl : n ≤ 3000000) (hz : ∀ u ∈ L, u.path.size ≤ 1048576) (now : Int) :
    Calls Try.prog 43 #[.pointer (some ⟨tb, 0, none⟩), .int .i64 now] W fun e W' => TxPost (expiredX L now) w0 e W' := by
  obtain ⟨i0, hin, hz0, hz1, hz2⟩ := info_parts infoStr16
  obtain ⟨av, cv, rfl⟩ := own_row_slice h.own
  obtain ⟨x0, z0⟩ := h.sl.bx 0 rfl 0 _ rfl
  have HW1 := Shut.mk (h.put 0 rfl 0 (.int .i32 1) (by simp))
  simp only [List.set_cons_zero] at HW1
  have HN := Shut.mk hn
  have HZ := Shut.mk hz
  clear h hz hn
  go_enter_defers Try.func43, Try.ntmps43
  go_upto_region 3 with (go_at_call 56; refine (Go.MuLone.lock_free muLib ⟨tb, 0, none⟩ _ x0 z0).mono ?_; rintro e w1 ⟨rfl, rfl⟩)
  refine wp_shade (fun V => OwS w0 V [tbS tb 1 (.slice av n cv)] 35 3 (.slice av n cv) n (lsS L)) HW1.out ?_
  intro W1 hW1
  have H1 := Shut.mk hW1
  have HR1 := Shut.mk (FRw.of_own hW1.own).1.crow
  have ltb : tb < W1.heap.size := (hW1.sl.at 0 rfl).1
  have HO := Shut.mk (OwS.nil (ty := 9) (sz := 1) (SL.start W1))
  clear HW1 hW1 x0 z0
  have y2 := (H1.out.sl.bx 0 rfl 2 _ rfl).1
  go_wp2_with fail
  clear y2
  go_loopw [5, 20] (fun v9 i9 wr => ∃ (k m : Nat) (X : List ByteArray), i9 = .int .i64 k ∧ k ≤ n ∧ m ≤ k ∧ Shut (X = ((L.take k).filter (fun f => isOld f now)).map (·.path) ∧ m = X.length) ∧ Shut (OwS W1 wr [] 9 1 v9 m (tv X))) (fun _ i9 _ => n - (intOf i9).toNat)
  case atStart => exact ⟨0, 0, [], rfl, Nat.zero_le _, Nat.le_refl _, ⟨by simp⟩, HO⟩
  case round =>
    clear HO
    obtain ⟨k, m, X, rfl, hk, hm, HL, HW⟩ := hrel
    obtain ⟨av9, cv9, rfl⟩ := own_row_slice HW.out.own
    by_cases hlt : k < n
    · have hku : k < L.length := by rw [← HN.out]; exact hlt
      obtain ⟨b, off, x, rfl, hx, lb, hc⟩ := ls_at HR1.out HW.out.sl.bel hku
      obtain ⟨d0, d1, d2⟩ := hc wr (Below.refl _ _)
      have k0 : (0 : Int) ≤ (k : Int) := by omega
      have k1 : (k : Int) < (n : Int) := by omega
      have HUT : Shut (x.path.size ≤ 1048576) := ⟨by rw [hx]; exact HZ.out _ (List.getElem_mem hku)⟩
      have HNX : Shut (((L.take (k + 1)).filter (fun f => isOld f now)).map (·.path) = ((L.take k).filter (fun f => isOld f now)).map (·.path) ++ if isOld x now = true then [x.path] else []) := ⟨by rw [filter_take _ L k hku, ← hx, List.map_append]; congr 1; split <;> rfl⟩
      have HA := Shut.mk (fun W => implSeenAgo x 12 now W)
      have HAO : Shut (agoX x 12 now = isOld x now) := ⟨rfl⟩
      rw [HAO.out] at HA
      have HX := Shut.mk (HW.out.box #[.string x.path, .int .i64 x.who, .int .i64 x.seen] 35)
      obtain ⟨bb, hbb⟩ : ∃ q, q = wr.heap.size := ⟨_, rfl⟩
      rw [← hbb] at HX
      clear hc hx HAO
      go_upto_region 7 with fail
      refine wp_shade (fun W => OwS W1 W (bxS bb [.string x.path, .int .i64 x.who, .int .i64 x.seen] :: []) 9 1 (.slice av9 m cv9) m (tv X)) HX.out ?_
      intro W3 hW
      rw [← hbb]
      have H2 := Shut.mk hW
      clear hW HX hbb d0 d1 d2 HW
      have z0 := (H2.out.sl.bx 0 rfl 0 _ rfl).1
      have z1 := (H2.out.sl.bx 0 rfl 1 _ rfl).1
      have z2 := (H2.out.sl.bx 0 rfl 2 _ rfl).1
      cases hq : isOld x now with
      | false =>
        rw [hq] at HNX HA
        go_wp2_with (go_at_call 64; refine (HA.out _).mono ?_; rintro e w3 ⟨rfl, hb⟩; have H3 := Shut.mk (H2.out.below hb).tail; clear hb z0 z1 z2 H2)
        go_roundw
        case rel => exact ⟨k + 1, m, X, by go_num, by omega, by omega, ⟨by rw [HNX.out]; simpa using HL.out⟩, H3⟩
        case measure => simp [intOf]; omega
      | true =>
        rw [hq] at HNX HA
        go_upto_region 8 with (go_at_call 64; refine (HA.out _).mono ?_; rintro e w3 ⟨rfl, hb⟩; have H3 := Shut.mk (H2.out.below hb); have q0 := (H3.out.sl.bx 0 rfl 0 _ rfl).1; clear hb z0 z1 z2 H2)
        go_wp2_with (first
          | (go_at_call 61; refine (implClone x.path _ (by have := HUT.out; omega)).mono ?_; rintro e w4 ⟨rfl, hb⟩; have H4 := Shut.mk (H3.out.below hb).tail; clear hb q0 H3; have hown := H4.out.own; have hbs := H4.out.sl.bel.size)
          | (at_builtin; refine wpList_append_own_at _ rfl _ _ 32 rfl W1.heap.size 9 i0 _ 1 16 Try.underlying32 hin hz0 hz1 hz2 rfl (by decide) _ _ _ rfl (hown.alloc _) ⟨w4.heap.size, 0, none⟩ 1 1 [.string x.path] rfl rfl (World.news_of_block (cs := #[.string x.path]) (t := 9) (fr := (0, 0)) (heap_alloc_new w4 _)) ?c25 ?c35 ?c45 ?c55 ?_))
        case c25 => simp [Value.oneCell']
        case c35 => unfold maxLen; omega
        case c45 => omega
        case c55 => first | omega | (simp; omega)
        intro v5 w5 ho hg _ hat
        have HL5 := Shut.mk (H4.out.more ((Below.refl _ _).alloc (Nat.le_refl _) _) ho hg (by simpa using hat))
        clear ho hg hat hown hbs
        go_wp2_with fail
        go_roundw
        case rel => exact ⟨k + 1, m + 1, X ++ [x.path], by go_num, by omega, by omega, ⟨⟨by rw [HNX.out]; simp only [if_true]; rw [← HL.out.1], by rw [List.length_append, ← HL.out.2]; rfl⟩⟩, ⟨by rw [show tv (X ++ [x.path]) = tv X ++ [.string x.path] by simp [tv]]; exact HL5.out⟩⟩
        case measure => simp [intOf]; omega
    · obtain rfl : n = k := by omega
      have HE : Shut (expiredX L now = X) := ⟨by
        have := HL.out.1
        rw [List.take_of_length_le (by have := HN.out; omega)] at this
        exact this.symm⟩
      obtain ⟨r0, r1, r2⟩ := at_door H1.out HW.out.sl.bel
      obtain ⟨a8, c8, e8, hf8, hc8⟩ := HW.out.frw
      obtain ⟨rfl, rfl⟩ : av9 = a8 ∧ cv9 = c8 := by simpa using e8
      have HF := Shut.mk (rwS.loc av9 (tv X) W1.heap.size wr.heap.size wr (wr.setCell ⟨tb, 0, none⟩ (.int .i32 0)) tb (tb + 1) hf8 (Turned.of_grown (gb_set' wr tb 0 _) (Nat.le_refl _) (Nat.lt_succ_self _)) (.inr ltb))
      have HB := Shut.mk r2
      clear hf8 e8 r2
      go_wp2_with fail
      refine leaves_cons (f := 57) (args := #[.pointer (some ⟨tb, 0, none⟩)]) (by simp) (by simp [go_sem]) ?_
      refine (Go.MuLone.unlock_deferred muLib ⟨tb, 0, none⟩ .returning _ r0 r1).mono ?_
      rintro e u' w'' ⟨rfl, rfl, rfl⟩
      rw [HE.out]
      exact ⟨_, results_tmp rfl _ _ _, av9, cv9, by rw [← HL.out.2]; rfl, frw_wide9 HF.out H1.out.sl.bel.size (by simp [World.setCell]), by rw [← HL.out.2]; exact hc8, HB.out⟩
end Go.Proofs.Ytcnjjbgilpgceaa
/- LtT: The program's own RenewLeases, Expired, HolderOf. -/
namespace Go.Proofs.Ytcnjjbgilpgceaa
set_option maxRecDepth 100000
open Go.RowKit BigFrame
attribute [local go_sem ↓] Go.wp_at_zero Go.wp_at_succ

set_option maxRecDepth 100000 in
theorem implHolderOf (us : List LsM) (a : Option Addr) (cap : Nat) (p : ByteArray) (w : World) (hr : LsRow w a us) (hl : us.length ≤ 1048576) (_ : lsSum us ≤ 1048576) (_ : p.size ≤ 1048576) :
    Calls Try.prog 17 #[.slice a us.length cap, .string p] w fun e w' => e = .returned (.int .i64 (holderX us p)) ∧ Below w.heap.size w w' := by
  have HT := Shut.mk (implTableOf us a cap w hr hl)
  obtain ⟨n, hn⟩ : ∃ n, n = us.length := ⟨_, rfl⟩
  have HN := Shut.mk hn
  rw [← hn] at HT hl ⊢
  clear hr hn
  go_enter Try.func17, Try.ntmps17
  go_wp2_with (first
    | (go_at_call 38; refine HT.out.mono ?_; rintro e w1 ⟨tb, v, rfl, ho⟩; have HO := Shut.mk ho; clear ho)
    | (go_at_call 44; refine (implHolder HO.out HN.out (by omega) p).mono ?_; rintro e w2 ⟨rfl, hb⟩; have HB := Shut.mk hb; clear hb))
  go_ret
  exact ⟨rfl, HB.out⟩
set_option maxRecDepth 100000 in
theorem implExpired (us : List LsM) (a : Option Addr) (cap : Nat) (now : Int) (w : World) (hr : LsRow w a us) (hl : us.length ≤ 1048576) (hz : lsSum us ≤ 1048576) (_ : -9223372036854775808 ≤ now ∧ now ≤ 9223372036854775807) :
    Calls Try.prog 16 #[.slice a us.length cap, .int .i64 now] w fun e w' => TxPost (expiredX us now) w e w' := by
  have HT := Shut.mk (implTableOf us a cap w hr hl)
  have HZ := Shut.mk (ls_small hz)
  obtain ⟨n, hn⟩ : ∃ n, n = us.length := ⟨_, rfl⟩
  have HN := Shut.mk hn
  rw [← hn] at HT hl ⊢
  clear hr hn hz
  go_enter Try.func16, Try.ntmps16
  go_wp2_with (first
    | (go_at_call 38; refine HT.out.mono ?_; rintro e w1 ⟨tb, v, rfl, ho⟩; have HO := Shut.mk ho; clear ho)
    | (go_at_call 43; refine (implExpiredT HO.out HN.out (by omega) HZ.out now).mono ?_; rintro e w2 ⟨a2, c2, rfl, hp⟩; have HP := Shut.mk hp; clear hp))
  go_ret
  exact ⟨a2, c2, rfl, HP.out⟩
set_option maxRecDepth 100000 in
theorem implRenew (us : List LsM) (a : Option Addr) (cap : Nat) (who now : Int) (w : World) (hr : LsRow w a us) (hl : us.length ≤ 1048576) (hz : lsSum us ≤ 1048576) (_ : -9223372036854775808 ≤ who ∧ who ≤ 9223372036854775807) (_ : -9223372036854775808 ≤ now ∧ now ≤ 9223372036854775807) :
    Calls Try.prog 14 #[.slice a us.length cap, .int .i64 who, .int .i64 now] w fun e w' => LsPost (renewX us who now) w e w' := by
  have HT := Shut.mk (implTableOf us a cap w hr hl)
  have HZ : Shut (∀ u ∈ renewX us who now, u.path.size ≤ 1048576) := ⟨fun u hu => by
    obtain ⟨f, hf, rfl⟩ := List.mem_map.1 hu
    have := ls_small hz f hf
    split <;> exact this⟩
  obtain ⟨n, hn⟩ : ∃ n, n = us.length := ⟨_, rfl⟩
  have HN := Shut.mk hn
  have HN2 : Shut (n = (renewX us who now).length) := ⟨by rw [renewX_len]; exact hn⟩
  rw [← hn] at HT hl ⊢
  clear hr hn hz
  go_enter Try.func14, Try.ntmps14
  go_wp2_with (first
    | (go_at_call 38; refine HT.out.mono ?_; rintro e w1 ⟨tb, v, rfl, ho⟩; have HO := Shut.mk ho; clear ho)
    | (go_at_call 41; refine (implRenewT HO.out HN.out (by omega) who now).mono ?_; rintro e w2 ⟨rfl, ho⟩; have HO2 := Shut.mk ho; clear ho)
    | (go_at_call 40; refine (implTold HO2.out HN2.out (by omega) HZ.out).mono ?_; rintro e w3 ⟨a3, c3, rfl, hp⟩; have HP := Shut.mk hp; clear hp))
  go_ret
  exact ⟨a3, c3, rfl, HP.out⟩
end Go.Proofs.Ytcnjjbgilpgceaa
/- LtE: The library's slices.IndexFunc and DeleteFunc over leases; the program's own DropLease. -/
namespace Go.Proofs.Ytcnjjbgilpgceaa
set_option maxRecDepth 100000
open Go.RowKit BigFrame
attribute [local go_sem ↓] Go.wp_at_zero Go.wp_at_succ

/-- The place of the first lease that a test takes, -1 without one. -/
def idxL (p : LsM → Bool) (L : List LsM) : Int := match L.findIdx? p with
  | some i => (i : Int)
  | none => -1
set_option maxRecDepth 100000 in
theorem test_path (r : LsM) (pb : Nat) (p : ByteArray) (w : World) (h : w.cell? ⟨pb, 0, none⟩ = some (.string p)) (hl : pb < w.heap.size) : Calls Try.prog 63 #[lsv r, .pointer (some ⟨pb, 0, none⟩)] w fun e w' => e = .returned (.bool (r.path.toList == p.toList)) ∧ Below w.heap.size w w' := by
  obtain ⟨R, hR⟩ : ∃ R, R = (r.path.toList == p.toList) := ⟨_, rfl⟩
  rw [← hR]
  go_enter Try.func63, Try.ntmps63
  go_wp2_with fail
  go_ret
  exact ⟨by simp [*], (Below.refl _ _).alloc (Nat.le_refl _) _⟩
set_option maxRecDepth 100000 in
set_option maxHeartbeats 1000000 in
theorem indexLease {w : World} {a : Option Addr} {n cap : Nat} {L : List LsM} (p : LsM → Bool) (cv : Value) (hr : LsRow w a L) (hn : n = L.length) (hl : n ≤ 3000000)
    (HC : ∀ W, Below w.heap.size w W → ∀ r ∈ L, Calls Try.prog 63 #[lsv r, cv] W fun e w' => e = .returned (.bool (p r)) ∧ Below W.heap.size W w') :
    Calls Try.prog 75 #[.slice a n cap, .func (.func 63) #[] #[cv]] w fun e w' => e = .returned (.int .i64 (idxL p L)) ∧ Below w.heap.size w w' := by
  obtain ⟨R, hR⟩ : ∃ R, R = idxL p L := ⟨_, rfl⟩
  rw [← hR]
  have HQ := Shut.mk hR
  have HR := Shut.mk hr
  have HCC := Shut.mk HC
  have HN := Shut.mk hn
  clear hR hr HC hn
  go_enter Try.func75, Try.ntmps75
  go_wp2_with fail
  go_loopw [8] (fun iv wr => ∃ k : Nat, iv = .int .i64 k ∧ k ≤ n ∧ Shut (∀ j (hj : j < L.length), j < k → p L[j] = false) ∧ Shut (Below w.heap.size w wr)) (fun iv _ => n - (intOf iv).toNat)
  case atStart => exact ⟨0, rfl, Nat.zero_le _, ⟨fun _ _ h => absurd h (Nat.not_lt_zero _)⟩, ⟨Below.refl _ _⟩⟩
  case round =>
    obtain ⟨k, rfl, hk, hno, HW⟩ := hrel
    by_cases hlt : k < n
    case pos =>
      have hkr : k < L.length := by have := HN.out; omega
      have k0 : (0 : Int) ≤ (k : Int) := by omega
      have k1 : (k : Int) < (n : Int) := by omega
      obtain ⟨b, off, r, rfl, hu, lb, hc⟩ := ls_at HR.out HW.out hkr
      obtain ⟨c0, c1, c2⟩ := hc wr (Below.refl _ _)
      have HCK := Shut.mk (HCC.out wr HW.out r (by rw [hu]; exact List.getElem_mem hkr))
      have HRK := Shut.mk hu
      obtain ⟨q, hq⟩ : ∃ q, q = p r := ⟨_, rfl⟩
      rw [← hq] at HCK
      have HP := Shut.mk hq
      clear hc hu hq
      cases q with
      | true =>
        have HE : Shut (R = (k : Int)) := ⟨by
          rw [HQ.out]
          unfold idxL
          have : L.findIdx? p = some k := by
            rw [List.findIdx?_eq_some_iff_getElem]
            refine ⟨hkr, by rw [← HRK.out, ← HP.out], fun j hj => ?_⟩
            have := hno.out j (by omega) hj
            rw [this]
            simp
          rw [this]⟩
        go_wp2_with (go_at_call 63; refine HCK.out.mono ?_; rintro e w1 ⟨rfl, hb1⟩; have HB1 := Shut.mk (HW.out.trans (hb1.mono HW.out.size)); clear hb1)
        go_ret
        exact ⟨by rw [HE.out]; rfl, HB1.out⟩
      | false =>
        go_wp2_with (go_at_call 63; refine HCK.out.mono ?_; rintro e w1 ⟨rfl, hb1⟩; have HB1 := Shut.mk (HW.out.trans (hb1.mono HW.out.size)); clear hb1)
        go_roundw
        case rel => exact ⟨k + 1, by go_num, by omega, ⟨fun j hj hjk => by
          rcases Nat.lt_succ_iff_lt_or_eq.1 hjk with e | e
          · exact hno.out j hj e
          · subst e; rw [← HRK.out, ← HP.out]⟩, HB1⟩
        case measure => simp [intOf]; omega
    case neg =>
      obtain rfl : n = k := by omega
      have HE : Shut (R = -1) := ⟨by
        rw [HQ.out]
        unfold idxL
        have : L.findIdx? p = none := by
          rw [List.findIdx?_eq_none_iff]
          intro x hx
          obtain ⟨j, hj, rfl⟩ := List.getElem_of_mem hx
          exact hno.out j hj (by have := HN.out; omega)
        rw [this]⟩
      go_wp2_with fail
      go_ret
      exact ⟨by rw [HE.out]; rfl, HW.out⟩
/-- A lease laid into a row. -/
theorem OwS.lease {w0 W : World} {S : List Str} {g n c : Nat} {X : List LsM} (h : OwS w0 W S 35 3 (.slice (some ⟨g, 0, none⟩) n c) n (lsS X)) (i : Nat) (hi : i < X.length) (r : LsM) :
    OwS w0 (((W.setCell ⟨g, i * 3, none⟩ (.string r.path)).setCell ⟨g, i * 3 + 1, none⟩ (.int .i64 r.who)).setCell ⟨g, i * 3 + 2, none⟩ (.int .i64 r.seen)) S 35 3 (.slice (some ⟨g, 0, none⟩) n c) n (lsS (X.set i r)) := by
  have k := ((h.cell (i * 3) (.string r.path)).cell (i * 3 + 1) (.int .i64 r.who)).cell (i * 3 + 2) (.int .i64 r.seen)
  have e : setL (lsS X) (i * 3) (lsC r) = lsS (X.set i r) := flat_setL lsC_len X i hi r
  rw [← e]
  exact k
/-- Where the deleting stands. -/
structure DL (w0 W : World) (S : List Str) (g n cap : Nat) (p : LsM → Bool) (L X : List LsM) (i j : Nat) : Prop where
  own : OwS w0 W S 35 3 (.slice (some ⟨g, 0, none⟩) n cap) n (lsS X)
  len : X.length = n
  pre : X.take i = (L.take j).filter (fun r => !p r)
  rest : ∀ t, j ≤ t → X[t]? = L[t]?
theorem DL.start {w0 W : World} {S : List Str} {g n cap : Nat} {p : LsM → Bool} {L : List LsM} {i : Nat} (h : OwS w0 W S 35 3 (.slice (some ⟨g, 0, none⟩) n cap) n (lsS L)) (hn : n = L.length) (hi : L.findIdx? p = some i) : DL w0 W S g n cap p L L i (i + 1) := by
  obtain ⟨hil, h1, h2⟩ := List.findIdx?_eq_some_iff_getElem.1 hi
  refine ⟨h, hn.symm, ?_, fun t _ => rfl⟩
  rw [filter_take _ L i hil, if_neg (by rw [h1]; simp), List.append_nil]
  refine (List.filter_eq_self.2 fun r hr => ?_).symm
  obtain ⟨j, hj, rfl⟩ := List.getElem_of_mem hr
  rw [List.length_take] at hj
  rw [List.getElem_take]
  simpa using h2 j (by omega)
theorem DL.skip {w0 W : World} {S : List Str} {g n cap : Nat} {p : LsM → Bool} {L X : List LsM} {i j : Nat} (h : DL w0 W S g n cap p L X i j) (hj : j < L.length) (hp : p L[j] = true) : DL w0 W S g n cap p L X i (j + 1) :=
  ⟨h.own, h.len, by rw [filter_take _ L j hj, if_neg (by rw [hp]; simp), List.append_nil]; exact h.pre, fun t ht => h.rest t (by omega)⟩
theorem DL.move {w0 W : World} {S : List Str} {g n cap : Nat} {p : LsM → Bool} {L X : List LsM} {i j : Nat} (h : DL w0 W S g n cap p L X i j) (hj : j < L.length) (hp : p L[j] = false) (hij : i < j) (hn : L.length = n) :
    DL w0 (((W.setCell ⟨g, i * 3, none⟩ (.string L[j].path)).setCell ⟨g, i * 3 + 1, none⟩ (.int .i64 L[j].who)).setCell ⟨g, i * 3 + 2, none⟩ (.int .i64 L[j].seen)) S g n cap p L (X.set i L[j]) (i + 1) (j + 1) := by
  have hi : i < X.length := by rw [h.len]; omega
  refine ⟨h.own.lease i hi L[j], by rw [List.length_set]; exact h.len, ?_, fun t ht => ?_⟩
  · rw [filter_take _ L j hj, if_pos (by rw [hp]; rfl), ← h.pre, List.take_succ_eq_append_getElem (by rw [List.length_set]; exact hi), List.getElem_set_self]
    congr 1
    rw [List.take_set_of_le (Nat.le_refl _)]
  · rw [List.getElem?_set_ne (by omega)]
    exact h.rest t (by omega)
theorem DL.fin {w0 W : World} {S : List Str} {g n cap : Nat} {p : LsM → Bool} {L X : List LsM} {i j : Nat} (h : DL w0 W S g n cap p L X i j) (hj : n ≤ j) (hs : L.length = n) (hin : i ≤ n) (vs : List Value) :
    OwS w0 (W.setCells g (i * 3) vs) S 35 3 (.slice (some ⟨g, 0, none⟩) i cap) i (lsS (L.filter fun r => !p r)) ∧ i = (L.filter fun r => !p r).length := by
  have hpre := h.pre
  rw [List.take_of_length_le (by omega : L.length ≤ j)] at hpre
  have hlen : i = (L.filter fun r => !p r).length := by rw [← hpre, List.length_take, h.len]; omega
  have ho := h.own.shorter hin
  have hc : (lsS X).take (i * 3) = lsS (L.filter fun r => !p r) := by
    rw [← hpre]
    have e2 : lsS X = lsS (X.take i) ++ lsS (X.drop i) := by
      conv => lhs; rw [← List.take_append_drop i X]
      exact List.flatMap_append
    rw [e2]
    have hl : (lsS (X.take i)).length = i * 3 := by rw [lsS_len, List.length_take, h.len, Nat.min_eq_left hin]
    rw [← hl, List.take_left]
  rw [hc] at ho
  exact ⟨OwS.past vs (i * 3) _ _ ho (by rw [lsS_len, ← hlen]; exact Nat.le_refl _), hlen⟩
abbrev zeroL : Array Value := #[.string ⟨#[]⟩, .int .i64 0, .int .i64 0]
theorem zeros_one9 (m : Nat) : ∀ v ∈ (Builtin.zeroCells zeroL m).toList, v.oneCell' = true := by
  intro v hv
  unfold Builtin.zeroCells at hv
  simp only [Array.toList_map, List.mem_map] at hv
  obtain ⟨i, -, rfl⟩ := hv
  have : i % 3 < 3 := Nat.mod_lt _ (by decide)
  show (zeroL[i % 3]!).oneCell' = true
  generalize i % 3 = q at this
  match q, this with
  | 0, _ => rfl
  | 1, _ => rfl
  | 2, _ => rfl
theorem zeros_len9 (m : Nat) : (Builtin.zeroCells zeroL m).toList.length = m * 3 := by
  unfold Builtin.zeroCells
  simp
theorem clear_run9 (g o m c : Nat) (W : World) (hc : ∀ j, j < (m + 1) * 3 → (W.cell? ⟨g, o + j, none⟩).isSome = true ∧ W.frozen? ⟨g, o + j, none⟩ = false) : Sem.run Try.prog (Builtin.clear_ #[24] 0 #[.slice (some ⟨g, o, none⟩) (m + 1) c]) W = .ok (.tuple #[]) (W.setCells g o (Builtin.zeroCells zeroL (m + 1)).toList) := by
  have hz : ∀ w, Sem.run Try.prog (zeroValue 35) w = .ok (.agg zeroL) w := fun w => by kernel_rfl
  have hs := run_storeCells_cells (P := Try.prog) g o (Builtin.zeroCells zeroL (m + 1)).toList 0 W (fun j hj => by rw [Nat.add_zero]; exact (hc j (by rw [← zeros_len9]; exact hj)).1) (fun j hj => by rw [Nat.add_zero]; exact (hc j (by rw [← zeros_len9]; exact hj)).2) (zeros_one9 (m + 1))
  unfold Builtin.clear_
  simp [go_sem, hz, Value.cells, hs]
set_option maxRecDepth 100000 in
set_option maxHeartbeats 4000000 in
theorem deleteLeases {w0 W : World} {S : List Str} {n cap : Nat} {av : Option Addr} {L : List LsM} (h : OwS w0 W S 35 3 (.slice av n cap) n (lsS L)) (hnl : n = L.length) (p : LsM → Bool) (cv : Value) (hn : n ≤ 3000000)
    (HC : ∀ W', SL w0 W' S → ∀ r : LsM, Calls Try.prog 63 #[lsv r, cv] W' fun e w' => e = .returned (.bool (p r)) ∧ Below W'.heap.size W' w') :
    Calls Try.prog 62 #[.slice av n cap, .func (.func 63) #[] #[cv]] W fun e w' => ∃ m, e = .returned (.slice av m cap) ∧ OwS w0 w' S 35 3 (.slice av m cap) m (lsS (L.filter fun r => !p r)) ∧ m = (L.filter fun r => !p r).length := by
  have HIX := Shut.mk (indexLease p cv (cap := cap) (FRw.of_own h.own).1.crow hnl hn (fun W' hb r _ => HC W' (h.sl.below hb) r))
  have HS := Shut.mk h
  have HCC := Shut.mk HC
  have HN := Shut.mk hnl
  clear h HC hnl
  cases ho : L.findIdx? p with
  | none =>
    have hix : idxL p L = -1 := by unfold idxL; rw [ho]
    rw [hix] at HIX
    have HO := Shut.mk ho
    clear hix ho
    go_enter Try.func62, Try.ntmps62
    go_wp2_with (go_at_call 75; refine HIX.out.mono ?_; rintro e w1 ⟨rfl, hb1⟩; have HB1 := Shut.mk hb1; clear hb1)
    go_ret
    have hall : L.filter (fun r => !p r) = L := List.filter_eq_self.2 fun r hr => by
      have := List.findIdx?_eq_none_iff.1 HO.out r hr
      simp [this]
    rw [hall]
    exact ⟨n, rfl, HS.out.below HB1.out, HN.out⟩
  | some i0 =>
    have hix : idxL p L = (i0 : Int) := by unfold idxL; rw [ho]
    rw [hix] at HIX
    have HO := Shut.mk ho
    clear hix ho
    have i1 : ((i0 : Int) == -1) = false := by simp
    have hi0 : i0 < n := by
      obtain ⟨hi', -⟩ := List.findIdx?_eq_some_iff_getElem.1 HO.out
      rw [HN.out]
      exact hi'
    have hg : ∃ g, av = some ⟨g, 0, none⟩ := by
      rcases HS.out.own.2 with ⟨e, e2⟩ | ⟨g, cap', cur, e, _⟩
      · omega
      · cases e; exact ⟨g, rfl⟩
    obtain ⟨g, rfl⟩ := hg
    have hw1 : IntKind.i64.wrap ((i0 : Int) + 1) = ((i0 + 1 : Nat) : Int) := by rw [IntWalk.i64_in _ ⟨by omega, by omega⟩]; omega
    go_enter Try.func62, Try.ntmps62
    go_wp2_with (go_at_call 75; refine HIX.out.mono ?_; rintro e w1 ⟨rfl, hb1⟩; have HD1 := Shut.mk (DL.start (HS.out.below hb1) HN.out HO.out); clear hb1)
    go_loopw [5, 6] (fun iv jv wr => ∃ (i j : Nat) (X : List LsM), iv = .int .i64 i ∧ jv = .int .i64 j ∧ j ≤ n ∧ i < j ∧ Shut (DL w0 wr S g n cap p L X i j)) (fun _ jv _ => n - (intOf jv).toNat)
    case atStart => exact ⟨i0, i0 + 1, L, rfl, rfl, by omega, by omega, HD1⟩
    case round =>
      clear HD1
      obtain ⟨i, j, X, rfl, rfl, hj, hij, HD⟩ := hrel
      obtain ⟨wo, rfl⟩ : ∃ wo, wo = wr := ⟨_, rfl⟩
      have HRN : Shut (L.length = n) := ⟨HN.out.symm⟩
      by_cases hlt : j < n
      case pos =>
        have hjr : j < L.length := by rw [HRN.out]; exact hlt
        have hjx : j < X.length := by rw [HD.out.len]; exact hlt
        have hxj : X[j] = L[j] := by
          have := HD.out.rest j (Nat.le_refl _)
          rw [List.getElem?_eq_getElem hjx, List.getElem?_eq_getElem hjr] at this
          exact Option.some.inj this
        have j0 : (0 : Int) ≤ (j : Int) := by omega
        have j1 : (j : Int) < (n : Int) := by omega
        have k0 : (0 : Int) ≤ (i : Int) := by omega
        have k1 : (i : Int) < (n : Int) := by omega
        have hw := own_wcells HD.out.own.own
        have c0 := (hw.2 (j * 3) _ (flat_get lsC_len X j hjx 0 (by omega))).1
        have c1 := (hw.2 (j * 3 + 1) _ (flat_get lsC_len X j hjx 1 (by omega))).1
        have c2 := (hw.2 (j * 3 + 2) _ (flat_get lsC_len X j hjx 2 (by omega))).1
        have c0' : _ = some (Value.string X[j].path) := c0
        have c1' : _ = some (Value.int .i64 X[j].who) := c1
        have c2' : _ = some (Value.int .i64 X[j].seen) := c2
        rw [hxj] at c0' c1' c2'
        obtain ⟨r, hrj⟩ : ∃ r, r = L[j] := ⟨_, rfl⟩
        rw [← hrj] at c0' c1' c2'
        have HRJ := Shut.mk hrj
        have lg : g < wo.heap.size := hw.1
        have HVX := Shut.mk (HD.out.own.box #[.string r.path, .int .i64 r.who, .int .i64 r.seen] 35)
        obtain ⟨vb, hvb⟩ : ∃ vb, vb = wo.heap.size := ⟨_, rfl⟩
        have hgv : g < vb := by omega
        rw [← hvb] at HVX
        clear hw c0 c1 c2 hxj hrj
        go_upto_region 8 with fail
        refine wp_shade (fun V => OwS w0 V (bxS vb [.string r.path, .int .i64 r.who, .int .i64 r.seen] :: S) 35 3 (.slice (some ⟨g, 0, none⟩) n cap) n (lsS X)) HVX.out ?_
        intro V hV
        have HV := Shut.mk hV
        rw [← hvb]
        have HPR := Shut.mk (And.intro HD.out.len (And.intro HD.out.pre HD.out.rest))
        clear hV hvb c0' c1' c2' lg HD HVX
        have HCK := Shut.mk (HCC.out V HV.out.sl.tail r)
        have y0 := (HV.out.sl.bx 0 rfl 0 _ rfl).1
        have y1 := (HV.out.sl.bx 0 rfl 1 _ rfl).1
        have y2 := (HV.out.sl.bx 0 rfl 2 _ rfl).1
        obtain ⟨q, hq⟩ : ∃ q, q = p r := ⟨_, rfl⟩
        rw [← hq] at HCK
        have HQ := Shut.mk hq
        clear hq
        cases q with
        | true =>
          go_wp2_with (go_at_call 63; refine HCK.out.mono ?_; rintro e w5 ⟨rfl, hb5⟩; have HV5 := Shut.mk (HV.out.below hb5).tail; clear hb5 y0 y1 y2)
          go_roundw
          case rel => exact ⟨i, j + 1, X, rfl, by go_num, by omega, by omega, ⟨(DL.mk HV5.out HPR.out.1 HPR.out.2.1 HPR.out.2.2).skip hjr (by rw [← HRJ.out, ← HQ.out])⟩⟩
          case measure => simp [intOf]; omega
        | false =>
          go_upto_region 9 with (go_at_call 63; refine HCK.out.mono ?_; rintro e w5 ⟨rfl, hb5⟩; have HV5 := Shut.mk (HV.out.below hb5); clear hb5 y0 y1 y2)
          have hii : i < X.length := by rw [HPR.out.1]; omega
          have hw := own_wcells HV5.out.own
          obtain ⟨z0, zf0⟩ := hw.2 (i * 3) _ (flat_get lsC_len X i hii 0 (by omega))
          obtain ⟨z1, zf1⟩ := hw.2 (i * 3 + 1) _ (flat_get lsC_len X i hii 1 (by omega))
          obtain ⟨z2, zf2⟩ := hw.2 (i * 3 + 2) _ (flat_get lsC_len X i hii 2 (by omega))
          have y0 := (HV5.out.sl.bx 0 rfl 0 _ rfl).1
          have y1 := (HV5.out.sl.bx 0 rfl 1 _ rfl).1
          have y2 := (HV5.out.sl.bx 0 rfl 2 _ rfl).1
          have ne1 : ¬ (vb = g) := by omega
          have ne2 : ¬ (g = vb) := by omega
          clear hw
          go_upto_region 10 with fail
          refine wp_shade (fun V6 => DL w0 V6 S g n cap p L (X.set i r) (i + 1) (j + 1)) (by
            have h9 := (DL.mk HV5.out.tail HPR.out.1 HPR.out.2.1 HPR.out.2.2).move hjr (by rw [← HRJ.out, ← HQ.out]) hij HRN.out
            rw [← HRJ.out] at h9
            exact h9) ?_
          intro V6 hV6
          have HV6 := Shut.mk hV6
          clear hV6 y0 y1 y2 z0 z1 z2 zf0 zf1 zf2
          go_wp2_with fail
          go_roundw
          case rel => exact ⟨i + 1, j + 1, X.set i r, by go_num, by go_num, by omega, by omega, HV6⟩
          case measure => simp [intOf]; omega
      case neg =>
        have j1 : ¬ (j : Int) < (n : Int) := by omega
        have hin : i ≤ n := by omega
        have k0 : (0 : Int) ≤ (i : Int) := by omega
        have k1 : (i : Int) ≤ (n : Int) := by omega
        have hcap : n ≤ cap := (FRw.of_own HD.out.own.own).2
        have hnc : (n : Int) ≤ (cap : Int) := by omega
        have hkc : (i : Int) ≤ (cap : Int) := by omega
        obtain ⟨m', hm'⟩ : ∃ m', n - i = m' + 1 := ⟨n - i - 1, by omega⟩
        have HCL := Shut.mk (clear_run9 g (i * 3) m' (cap - i) wo (fun q hq => by
          have hlt9 : i * 3 + q < (lsS X).length := by rw [lsS_len, HD.out.len]; omega
          have := (own_wcells HD.out.own.own).2 (i * 3 + q) _ (List.getElem?_eq_getElem hlt9)
          exact ⟨by rw [this.1]; rfl, this.2⟩))
        rw [← hm'] at HCL
        have hcl := HCL.out
        have HF := Shut.mk (HD.out.fin (by omega) HRN.out hin (Builtin.zeroCells zeroL (n - i)).toList)
        clear hm' HCL
        go_wp2_with fail
        go_ret
        exact ⟨by rw [← HF.out.2]; rfl, by rw [← HF.out.2]; exact HF.out.1⟩
set_option maxRecDepth 100000 in
set_option maxHeartbeats 4000000 in
theorem implDropT {w0 W : World} {tb n : Nat} {v : Value} {L : List LsM} (h : OwS w0 W [tbS tb 0 v] 35 3 v n (lsS L)) (hn : n = L.length) (hl : n ≤ 3000000) (p : ByteArray) :
    Calls Try.prog 42 #[.pointer (some ⟨tb, 0, none⟩), .string p] W fun e W' => e = .returned (.tuple #[]) ∧ ∃ v' m, OwS w0 W' [tbS tb 0 v'] 35 3 v' m (lsS (dropX9 L p)) ∧ m = (dropX9 L p).length := by
  obtain ⟨av, cv, rfl⟩ := own_row_slice h.own
  have HN := Shut.mk hn
  have HX := Shut.mk (h.box #[.string p] 9)
  obtain ⟨pb, hpb⟩ : ∃ q, q = W.heap.size := ⟨_, rfl⟩
  rw [← hpb] at HX
  clear h hn
  go_enter_defers Try.func42, Try.ntmps42
  go_upto_region 1 with fail
  refine wp_shade (fun V => OwS w0 V [bxS pb [.string p], tbS tb 0 (.slice av n cv)] 35 3 (.slice av n cv) n (lsS L)) HX.out ?_
  intro V0 hV0
  rw [← hpb]
  obtain ⟨x0, z0⟩ := hV0.sl.bx 1 rfl 0 _ rfl
  have HW1 := Shut.mk (hV0.put 1 rfl 0 (.int .i32 1) (by simp))
  simp only [List.set_cons_zero, List.set_cons_succ] at HW1
  clear hV0 hpb HX
  go_upto_region 3 with (go_at_call 56; refine (Go.MuLone.lock_free muLib ⟨tb, 0, none⟩ _ x0 z0).mono ?_; rintro e w1 ⟨rfl, rfl⟩)
  refine wp_shade (fun V => OwS w0 V [bxS pb [.string p], tbS tb 1 (.slice av n cv)] 35 3 (.slice av n cv) n (lsS L)) HW1.out ?_
  intro W1 hW1
  have H1 := Shut.mk hW1
  have HDF := Shut.mk (deleteLeases hW1 HN.out (fun r => r.path.toList == p.toList) (.pointer (some ⟨pb, 0, none⟩)) hl (fun W' hs r => test_path r pb p W' (hs.bx 0 rfl 0 _ rfl).1 (hs.at 0 rfl).1))
  have y2 := (hW1.sl.bx 1 rfl 2 _ rfl).1
  clear HW1 hW1 x0 z0
  have hmf : ∀ (fn : Fn) (first cap : Array Value) (w : World), (Instr.makeFunc fn first cap).run Try.prog w = .ok (.func fn first cap) w := fun _ _ _ _ => rfl
  go_wp2_with (go_at_call 62; refine HDF.out.mono ?_; rintro e w2 ⟨m, rfl, ho, hm⟩; have HM := Shut.mk hm; obtain ⟨q2, qz2⟩ := ho.sl.bx 1 rfl 2 _ rfl; have HP := Shut.mk (ho.put 1 rfl 2 (.slice av m cv) (by simp)); clear ho hm)
  simp only [List.set_cons_zero, List.set_cons_succ] at HP
  obtain ⟨r0, r1, r2⟩ := at_door2 HP.out.tail
  have HR := Shut.mk r2
  clear r2
  refine leaves_cons (f := 57) (args := #[.pointer (some ⟨tb, 0, none⟩)]) (by simp) (by simp [go_sem]) ?_
  refine (Go.MuLone.unlock_deferred muLib ⟨tb, 0, none⟩ .returning _ r0 r1).mono ?_
  rintro e u' w'' ⟨rfl, rfl, rfl⟩
  exact ⟨_, results_none rfl _ _ _, rfl, _, m, HR.out, HM.out⟩
set_option maxRecDepth 100000 in
theorem implDropLease (us : List LsM) (a : Option Addr) (cap : Nat) (p : ByteArray) (w : World) (hr : LsRow w a us) (hl : us.length ≤ 1048576) (hz : lsSum us ≤ 1048576) (_ : p.size ≤ 1048576) :
    Calls Try.prog 15 #[.slice a us.length cap, .string p] w fun e w' => LsPost (dropX9 us p) w e w' := by
  have HT := Shut.mk (implTableOf us a cap w hr hl)
  have HZ : Shut (∀ u ∈ dropX9 us p, u.path.size ≤ 1048576) := ⟨fun u hu => ls_small hz u (List.mem_filter.1 hu).1⟩
  have HLE := Shut.mk (dropX9_len us p)
  obtain ⟨n, hn⟩ : ∃ n, n = us.length := ⟨_, rfl⟩
  have HN := Shut.mk hn
  rw [← hn] at HT hl HLE ⊢
  clear hr hn hz
  go_enter Try.func15, Try.ntmps15
  go_wp2_with (first
    | (go_at_call 38; refine HT.out.mono ?_; rintro e w1 ⟨tb, v, rfl, ho⟩; have HO := Shut.mk ho; clear ho)
    | (go_at_call 42; refine (implDropT HO.out HN.out (by omega) p).mono ?_; rintro e w2 ⟨rfl, v2, m2, ho, hm⟩; have HO2 := Shut.mk ho; have HM2 := Shut.mk hm; clear ho hm)
    | (go_at_call 40; refine (implTold HO2.out HM2.out (by have := HLE.out; have := HM2.out; omega) HZ.out).mono ?_; rintro e w3 ⟨a3, c3, rfl, hp⟩; have HP := Shut.mk hp; clear hp))
  go_ret
  exact ⟨a3, c3, rfl, HP.out⟩
end Go.Proofs.Ytcnjjbgilpgceaa
/- LtF: The library's slices.Insert of one lease into a row of one's own. -/
namespace Go.Proofs.Ytcnjjbgilpgceaa
set_option maxRecDepth 100000
open Go.RowKit BigFrame
attribute [local go_sem ↓] Go.wp_at_zero Go.wp_at_succ

section
variable {P : Program}
/-- 'copy(d, s)' of elements of several cells. -/
theorem run_copy_any9 (w : World) (dT sT ty elem : TypeId) (sz m b o dLen dCap : Nat) (a : Addr) (sLen sCap : Nat) (cs : List Value)
    (hu : P.underlying dT = some (.slice elem)) (hs : (P.info? elem).map (·.size) = some sz) (hm : Nat.min sLen dLen = m) (hn : cs.length = m * sz)
    (hsrc : ∀ j v, cs[j]? = some v → w.cell? (a.add j) = some v) (hc : ∀ j, j < cs.length → (w.cell? ⟨b, o + j, none⟩).isSome = true) (hf : ∀ j, j < cs.length → w.frozen? ⟨b, o + j, none⟩ = false) (h1 : ∀ v ∈ cs, v.oneCell' = true) :
    (Builtin.copy_ #[dT, sT] ty #[.slice (some ⟨b, o, none⟩) dLen dCap, .slice (some a) sLen sCap]).run P w = .ok (goInt m) (w.setCells b o cs) := by
  have hl := run_loadCells_list (P := P) w a cs hsrc
  rw [hn] at hl
  have hst := run_storeCells_cells (P := P) b o cs 0 w (by simpa using hc) (by simpa using hf) h1
  cases hq : P.info? elem with
  | none => simp [hq] at hs
  | some i =>
    have hi : i.size = sz := by simpa [hq] using hs
    simp [Builtin.copy_, run_underlying hu, Builtin.lenOf, Builtin.firstCells, sizeOf, typeInfo, hq, hi, hm, hl, hst]
end
theorem setL_last (A R D : List Value) (h : R.length = D.length) : setL (A ++ R) A.length D = A ++ D := by
  have := setL_app A R 0 D
  rw [Nat.add_zero] at this
  rw [this]
  have k := setL_head R [] D h
  rw [List.append_nil, List.append_nil] at k
  rw [k]
theorem setL_mid (A Y M D : List Value) (h : Y.length = M.length + D.length) : setL (setL (A ++ Y) A.length M) (A.length + M.length) D = A ++ M ++ D := by
  have e1 : setL (A ++ Y) A.length M = A ++ M ++ Y.drop M.length := by
    have := setL_app A Y 0 M
    rw [Nat.add_zero] at this
    rw [this]
    have e : Y = Y.take M.length ++ Y.drop M.length := (List.take_append_drop _ _).symm
    have k := setL_head (Y.take M.length) (Y.drop M.length) M (by rw [List.length_take]; omega)
    rw [← e] at k
    rw [k, List.append_assoc]
  rw [e1, ← List.length_append]
  exact setL_last _ _ _ (by rw [List.length_drop]; omega)
theorem setL_mid2 (A Y M D : List Value) (h : Y.length = M.length + D.length) : setL (setL (A ++ Y) (A.length + M.length) D) A.length M = A ++ M ++ D := by
  have e : Y = Y.take M.length ++ Y.drop M.length := (List.take_append_drop _ _).symm
  have hl : (Y.take M.length).length = M.length := by rw [List.length_take]; omega
  have e1 : setL (A ++ Y) (A.length + M.length) D = A ++ (Y.take M.length ++ D) := by
    have k := setL_last (A ++ Y.take M.length) (Y.drop M.length) D (by rw [List.length_drop]; omega)
    rw [List.append_assoc, ← e, List.length_append, hl] at k
    rw [k, List.append_assoc]
  rw [e1]
  have k := setL_app A (Y.take M.length ++ D) 0 M
  rw [Nat.add_zero] at k
  rw [k, setL_head _ _ _ hl, List.append_assoc]
/-- A new row, made beside stretches. -/
theorem OwS.made {w0 W : World} {S : List Str} {ty sz m G : Nat} (h : SL w0 W S) (ROW : Array Value) (hm : m ≤ G) (hG : G ≤ maxLen) (hsz : ROW.size = G * sz) :
    OwS w0 (W.alloc (.cells ROW ty)) S ty sz (.slice (some ⟨W.heap.size, 0, none⟩) m G) m (ROW.toList.take (m * sz)) := by
  have hle : m * sz ≤ G * sz := Nat.mul_le_mul_right _ hm
  refine ⟨h.below ((Below.refl _ _).alloc (Nat.le_refl _) _), ⟨by rw [List.length_take, Array.length_toList, hsz]; omega, .inr ⟨W.heap.size, G, ROW, rfl, h.bel.size, heap_alloc_new W _, hm, hG, hsz, rfl⟩⟩, fun q e s hs => ?_⟩
  have eq : W.heap.size = q := by simpa [Value.ownBlock] using e
  have := (h.is s hs).2.2.2
  omega
theorem OwS.heap {w0 W : World} {S : List Str} {ty sz g n c : Nat} {L : List Value} (h : OwS w0 W S ty sz (.slice (some ⟨g, 0, none⟩) n c) n L) : ∃ cur, W.heap[g]? = some (.cells cur ty (0, 0)) ∧ cur.size = c * sz ∧ c ≤ maxLen := by
  rcases h.own.2 with ⟨h', _⟩ | ⟨g', cap', cur, h', hb, hg, hnc, hcm, hcs, htake⟩
  · simp at h'
  · simp only [Value.slice.injEq, Option.some.injEq, Addr.mk.injEq, and_true, true_and] at h'
    obtain ⟨rfl, rfl⟩ := h'
    exact ⟨cur, hg, hcs, hcm⟩
theorem ls_mid (L : List LsM) (i : Nat) (x : LsM) : lsS (L.take i ++ [x] ++ L.drop i) = lsS (L.take i) ++ lsC x ++ lsS (L.drop i) := by simp [lsS]
theorem ls_cut (L : List LsM) (i : Nat) : lsS L = lsS (L.take i) ++ lsS (L.drop i) := by
  conv => lhs; rw [← List.take_append_drop i L]
  exact List.flatMap_append
set_option maxRecDepth 100000 in
set_option maxHeartbeats 4000000 in
/-- At the end. -/
theorem insertEnd {w0 W : World} {S : List Str} {n c vb : Nat} {av : Option Addr} {L : List LsM} {x : LsM} (h : OwS w0 W (bxS vb (lsC x) :: S) 35 3 (.slice av n c) n (lsS L)) (hl : n ≤ 1048576) :
    Calls Try.prog 60 #[.slice av n c, .int .i64 (n : Nat), .slice (some ⟨vb, 0, none⟩) 1 1] W fun e W' => ∃ v', e = .returned v' ∧ OwS w0 W' (bxS vb (lsC x) :: S) 35 3 v' (n + 1) (lsS (L ++ [x])) := by
  obtain ⟨i0, hin, hz0, hz1, hz2⟩ := info_parts infoLease
  have hcl : ∀ j u, (lsC x)[j]? = some u → W.cell? ((⟨vb, 0, none⟩ : Addr).add j) = some u := fun j u hu => by
    have q := (h.sl.bx 0 rfl j u hu).1
    cases j with
    | zero => exact q
    | succ j => simpa [Addr.add] using q
  have HCL := Shut.mk hcl
  have HO := Shut.mk h
  have hnc : n ≤ c := (FRw.of_own h.own).2
  have hown := h.own
  have hbs := h.sl.bel.size
  have h1 : (n : Int) ≤ (c : Int) := by omega
  clear h hcl
  by_cases hcn : c = n
  · subst hcn
    go_enter Try.func60, Try.ntmps60
    cases av with
    | none =>
      go_wp2_with (at_builtin; refine wpList_append_own_at _ rfl _ _ 24 rfl w0.heap.size 35 i0 _ 3 32 Try.underlying24 hin hz0 hz1 hz2 rfl (by decide) _ _ _ rfl hown ⟨vb, 0, none⟩ 1 1 (lsC x) rfl rfl HCL.out ?c2 ?c3 ?c4 ?c5 ?_)
      case c2 => simp [Value.oneCell', lsC]
      case c3 => unfold maxLen; omega
      case c4 => omega
      case c5 => first | omega | (simp; omega)
      intro v9 w9 ho hg _ hat
      have HL9 := Shut.mk (HO.out.more (Below.refl _ _) ho hg (by simpa using hat))
      rw [← lss_snoc] at HL9
      clear ho hg hat hown hbs
      go_wp2_with fail
      go_ret
      exact ⟨_, rfl, HL9.out⟩
    | some q =>
      go_wp2_with (at_builtin; refine wpList_append_own_at _ rfl _ _ 24 rfl w0.heap.size 35 i0 _ 3 32 Try.underlying24 hin hz0 hz1 hz2 rfl (by decide) _ _ _ rfl hown ⟨vb, 0, none⟩ 1 1 (lsC x) rfl rfl HCL.out ?c2 ?c3 ?c4 ?c5 ?_)
      case c2 => simp [Value.oneCell', lsC]
      case c3 => unfold maxLen; omega
      case c4 => omega
      case c5 => first | omega | (simp; omega)
      intro v9 w9 ho hg _ hat
      have HL9 := Shut.mk (HO.out.more (Below.refl _ _) ho hg (by simpa using hat))
      rw [← lss_snoc] at HL9
      clear ho hg hat hown hbs
      go_wp2_with fail
      go_ret
      exact ⟨_, rfl, HL9.out⟩
  · go_enter Try.func60, Try.ntmps60
    cases av with
    | none =>
      go_wp2_with (at_builtin; refine wpList_append_own_at _ rfl _ _ 24 rfl w0.heap.size 35 i0 _ 3 32 Try.underlying24 hin hz0 hz1 hz2 rfl (by decide) _ _ _ rfl hown ⟨vb, 0, none⟩ 1 1 (lsC x) rfl rfl HCL.out ?c2 ?c3 ?c4 ?c5 ?_)
      case c2 => simp [Value.oneCell', lsC]
      case c3 => unfold maxLen; omega
      case c4 => omega
      case c5 => first | omega | (simp; omega)
      intro v9 w9 ho hg _ hat
      have HL9 := Shut.mk (HO.out.more (Below.refl _ _) ho hg (by simpa using hat))
      rw [← lss_snoc] at HL9
      clear ho hg hat hown hbs
      go_wp2_with fail
      go_ret
      exact ⟨_, rfl, HL9.out⟩
    | some q =>
      go_wp2_with (at_builtin; refine wpList_append_own_at _ rfl _ _ 24 rfl w0.heap.size 35 i0 _ 3 32 Try.underlying24 hin hz0 hz1 hz2 rfl (by decide) _ _ _ rfl hown ⟨vb, 0, none⟩ 1 1 (lsC x) rfl rfl HCL.out ?c2 ?c3 ?c4 ?c5 ?_)
      case c2 => simp [Value.oneCell', lsC]
      case c3 => unfold maxLen; omega
      case c4 => omega
      case c5 => first | omega | (simp; omega)
      intro v9 w9 ho hg _ hat
      have HL9 := Shut.mk (HO.out.more (Below.refl _ _) ho hg (by simpa using hat))
      rw [← lss_snoc] at HL9
      clear ho hg hat hown hbs
      go_wp2_with fail
      go_ret
      exact ⟨_, rfl, HL9.out⟩
set_option maxRecDepth 100000 in
set_option maxHeartbeats 4000000 in
/-- Within, with no room: a new row. -/
theorem insertGrow {w0 W : World} {S : List Str} {n c vb i g : Nat} {L : List LsM} {x : LsM} (h : OwS w0 W (bxS vb (lsC x) :: S) 35 3 (.slice (some ⟨g, 0, none⟩) n c) n (lsS L)) (hnl : n = L.length) (hl : n ≤ 1048576) (hi : i < n) (hcn : c = n) :
    Calls Try.prog 60 #[.slice (some ⟨g, 0, none⟩) n c, .int .i64 (i : Nat), .slice (some ⟨vb, 0, none⟩) 1 1] W fun e W' => ∃ v', e = .returned v' ∧ OwS w0 W' (bxS vb (lsC x) :: S) 35 3 v' (n + 1) (lsS (L.take i ++ [x] ++ L.drop i)) := by
  obtain ⟨i0, hin, hz0, hzs, hz2⟩ := info_parts infoLease
  have hsz : (Try.prog.info? 35).map (·.size) = some 3 := by rw [hin]; simp [hzs]
  have hgl : g < W.heap.size := (h.lt g rfl).2
  have hvl : vb < W.heap.size := (h.sl.at 0 rfl).1
  have hA : (lsS (L.take i)).length = i * 3 := by rw [lsS_len, List.length_take]; omega
  have hD : (lsS (L.drop i)).length = (n - i) * 3 := by rw [lsS_len, List.length_drop]; omega
  have hcut := ls_cut L i
  have hmid := ls_mid L i x
  have hfl := own_wcells h.own
  have hold : (Builtin.firstCells i0.size i (.slice (some ⟨g, 0, none⟩) i c)).run Try.prog W.drew = .ok (lsS (L.take i)).toArray W.drew := by
    rw [hzs]
    exact run_firstCells_some W.drew 3 i ⟨g, 0, none⟩ i c (lsS (L.take i)) hA (fun j v hj => by
      rw [show (⟨g, 0, none⟩ : Addr).add j = ⟨g, j, none⟩ by cases j <;> simp [Addr.add]]
      exact (hfl.2 j v (by rw [hcut, List.getElem?_append_left (List.getElem?_eq_some_iff.1 hj).1]; exact hj)).1)
  obtain ⟨G, hG⟩ : ∃ G, G = grownCap W (n + 1) c 35 := ⟨_, rfl⟩
  obtain ⟨ROW, hROW⟩ : ∃ ROW : Array Value, ROW = (lsS (L.take i)).toArray ++ Builtin.zeroCells zeroL (n + 1 - i) ++ Builtin.zeroCells zeroL (G - (n + 1)) := ⟨_, rfl⟩
  have hrz : ∀ ty, (Builtin.append_ #[24, 3] ty #[.slice (some ⟨g, 0, none⟩) i c, .int .i64 ((n : Int) + 1 - (i : Int))]).run Try.prog W = .ok (.slice (some ⟨W.heap.size, 0, none⟩) (n + 1) G) (W.drew.alloc (.cells ROW 35)) := fun ty => by
    have h := Lib.run_append_grow_zeros (P := Try.prog) W 24 3 ty 35 i0 _ .i64 .i64 Try.underlying24 Try.underlying3 hin hz0 (some ⟨g, 0, none⟩) i c (lsS (L.take i)) hold (n + 1 - i) (by omega) (by omega) (by omega) (by omega) (by rw [hz2]; omega) (by rw [hz2, show i + (n + 1 - i) = n + 1 by omega]; exact growslice_fits (by omega) (by omega))
    rw [show i + (n + 1 - i) = n + 1 by omega, ← hG] at h
    rw [show (n : Int) + 1 - (i : Int) = ((n + 1 - i : Nat) : Int) by omega, hROW]
    exact h
  have hGn : n + 1 ≤ G := by rw [hG]; exact grownCap_ge W _ _ _
  have hGm : G ≤ maxLen := by rw [hG]; exact grownCap_le_maxLen W (n + 1) c 35 (by unfold maxLen; omega)
  have hRs : ROW.size = G * 3 := by
    rw [hROW, Array.size_append, Array.size_append, size_zeroCells, size_zeroCells, List.size_toArray, hA]
    show i * 3 + (n + 1 - i) * 3 + (G - (n + 1)) * 3 = G * 3
    omega
  have HM := OwS.made (m := n + 1) (G := G) (ty := 35) (sz := 3) (SL.drew h.sl) ROW hGn hGm hRs
  have hX : ROW.toList.take ((n + 1) * 3) = lsS (L.take i) ++ (ROW.toList.take ((n + 1) * 3)).drop (i * 3) := by
    conv => lhs; rw [← List.take_append_drop (i * 3) (ROW.toList.take ((n + 1) * 3))]
    rw [List.take_take, Nat.min_eq_left (by omega), hROW]
    congr 1
    rw [Array.toList_append, Array.toList_append, List.append_assoc, ← hA, List.take_left]
  obtain ⟨Y, hY⟩ : ∃ Y, Y = (ROW.toList.take ((n + 1) * 3)).drop (i * 3) := ⟨_, rfl⟩
  have hYl : Y.length = (lsC x).length + (lsS (L.drop i)).length := by
    rw [hY, List.length_drop, List.length_take, Array.length_toList, hRs, hD, lsC_len]
    omega
  rw [hX, ← hY] at HM
  have hd9 : W.drew.heap.size = W.heap.size := rfl
  rw [hd9] at HM
  obtain ⟨W1, hW1⟩ : ∃ W1, W1 = W.drew.alloc (.cells ROW 35) := ⟨_, rfl⟩
  rw [← hW1] at hrz HM
  have hw1 := own_wcells HM.own
  have hXl : (lsS (L.take i) ++ Y).length = (n + 1) * 3 := by rw [List.length_append, hA, hYl, hD, lsC_len]; omega
  have hOld : ∀ b j v, b < W.heap.size → W.cell? ⟨b, j, none⟩ = some v → W1.cell? ⟨b, j, none⟩ = some v := fun b j v hb hv => by rw [hW1, World.cell?_alloc_past (w := W.drew) _ b j hb]; exact hv
  have hone : ∀ u ∈ lsC x, u.oneCell' = true := fun u hu => lss_one [x] u (by simpa [lsS] using hu)
  have hcpA : ∀ (V : World), (∀ q, V.cell? q = W1.cell? q) → (∀ q, V.frozen? q = W1.frozen? q) → ∀ ty dc, (Builtin.copy_ #[24, 24] ty #[.slice (some ⟨W.heap.size, i * 3, none⟩) (n + 1 - i) dc, .slice (some ⟨vb, 0, none⟩) 1 1]).run Try.prog V = .ok (goInt (1 : Nat)) (V.setCells W.heap.size (i * 3) (lsC x)) := fun V hVc hVf ty dc =>
    run_copy_any9 (P := Try.prog) V _ _ ty 35 3 1 W.heap.size (i * 3) (n + 1 - i) dc ⟨vb, 0, none⟩ 1 1 (lsC x) Try.underlying24 hsz (by simp only [Nat.min_def]; split <;> omega) rfl
      (fun j v hj => by
        rw [show (⟨vb, 0, none⟩ : Addr).add j = ⟨vb, j, none⟩ by cases j <;> simp [Addr.add], hVc]
        exact hOld vb j v hvl (h.sl.bx 0 rfl j v hj).1)
      (fun j hj => by
        have := (hw1.2 (i * 3 + j) _ (List.getElem?_eq_getElem (by rw [hXl]; rw [lsC_len] at hj; omega))).1
        rw [hVc, this]; rfl)
      (fun j hj => by
        rw [hVf]
        exact (hw1.2 (i * 3 + j) _ (List.getElem?_eq_getElem (by rw [hXl]; rw [lsC_len] at hj; omega))).2) hone
  have HM2 := HM.sets (lsC x) (i * 3) _ _
  obtain ⟨W2, hW2⟩ : ∃ W2, W2 = W1.setCells W.heap.size (i * 3) (lsC x) := ⟨_, rfl⟩
  rw [← hW2] at HM2
  have hw2 := own_wcells HM2.own
  have hX2 : (setL (lsS (L.take i) ++ Y) (i * 3) (lsC x)).length = (n + 1) * 3 := by rw [setL_len, hXl]
  have hcpB : ∀ (V : World), (∀ q, V.cell? q = W2.cell? q) → (∀ q, V.frozen? q = W2.frozen? q) → ∀ ty dc sc, (Builtin.copy_ #[24, 24] ty #[.slice (some ⟨W.heap.size, (i + 1) * 3, none⟩) (n + 1 - (i + 1)) dc, .slice (some ⟨g, i * 3, none⟩) (n - i) sc]).run Try.prog V = .ok (goInt (n - i : Nat)) (V.setCells W.heap.size ((i + 1) * 3) (lsS (L.drop i))) := fun V hVc hVf ty dc sc =>
    run_copy_any9 (P := Try.prog) V _ _ ty 35 3 (n - i) W.heap.size ((i + 1) * 3) (n + 1 - (i + 1)) dc ⟨g, i * 3, none⟩ (n - i) sc (lsS (L.drop i)) Try.underlying24 hsz (by simp only [Nat.min_def]; split <;> omega) hD
      (fun j v hj => by
        have hlt := (List.getElem?_eq_some_iff.1 hj).1
        rw [show (⟨g, i * 3, none⟩ : Addr).add j = ⟨g, i * 3 + j, none⟩ by cases j <;> simp [Addr.add], hVc, hW2, World.cell?_setCells_out _ _ _ _ _ (fun e _ => absurd e (by show g ≠ W.heap.size; omega))]
        exact hOld g _ v hgl (hfl.2 (i * 3 + j) v (by rw [hcut, List.getElem?_append_right (by rw [hA]; omega), hA, Nat.add_sub_cancel_left]; exact hj)).1)
      (fun j hj => by
        have := (hw2.2 ((i + 1) * 3 + j) _ (List.getElem?_eq_getElem (by rw [hX2]; rw [hD] at hj; omega))).1
        rw [hVc, this]; rfl)
      (fun j hj => by
        rw [hVf]
        exact (hw2.2 ((i + 1) * 3 + j) _ (List.getElem?_eq_getElem (by rw [hX2]; rw [hD] at hj; omega))).2) (fun u hu => lss_one (L.drop i) u hu)
  have HM3 := HM2.drew.sets (lsS (L.drop i)) ((i + 1) * 3) _ _
  have hfin : setL (setL (lsS (L.take i) ++ Y) (i * 3) (lsC x)) ((i + 1) * 3) (lsS (L.drop i)) = lsS (L.take i ++ [x] ++ L.drop i) := by
    rw [hmid]
    have k := setL_mid (lsS (L.take i)) Y (lsC x) (lsS (L.drop i)) hYl
    rw [hA, lsC_len, show i * 3 + 3 = (i + 1) * 3 by omega] at k
    exact k
  rw [hfin, hW2, hW1] at HM3
  have HF := Shut.mk HM3
  have HRZ := Shut.mk hrz
  have HA := Shut.mk hcpA
  have HB := Shut.mk hcpB
  subst hW2
  subst hW1
  have hE1 : ∀ q, ((W.alloc (.cells ROW 35)).drew).cell? q = (W.drew.alloc (.cells ROW 35)).cell? q := fun q => rfl
  have hE2 : ∀ q, ((W.alloc (.cells ROW 35)).drew).frozen? q = (W.drew.alloc (.cells ROW 35)).frozen? q := fun q => rfl
  have hF1 : ∀ q, (((W.alloc (.cells ROW 35)).drew.setCells W.heap.size (i * 3) (lsC x)).drew).cell? q = ((W.drew.alloc (.cells ROW 35)).setCells W.heap.size (i * 3) (lsC x)).cell? q := fun q => rfl
  have hF2 : ∀ q, (((W.alloc (.cells ROW 35)).drew.setCells W.heap.size (i * 3) (lsC x)).drew).frozen? q = ((W.drew.alloc (.cells ROW 35)).setCells W.heap.size (i * 3) (lsC x)).frozen? q := fun q => rfl
  have h1 : (i : Int) ≤ (n : Int) := by omega
  have h2 : ¬ ((i : Int) = (n : Int)) := by omega
  have h2' : ((i : Int) == (n : Int)) = false := by simp; omega
  have h3 : (c : Int) < (n : Int) + 1 := by omega
  have h4 : ¬ (c = i) := by omega
  have h5 : ¬ (G = i) := by omega
  have h6 : ¬ (G = i + 1) := by omega
  have h7 : (i : Int) ≤ (c : Int) := by omega
  have h8 : (i : Int) ≤ (n : Int) + 1 := by omega
  have h9 : (i : Int) + 1 ≤ (n : Int) + 1 := by omega
  have h10 : ((i : Int) + 1).toNat = i + 1 := by omega
  have h11 : (0 : Int) ≤ (i : Int) + 1 := by omega
  have hGi : (n : Int) + 1 ≤ (G : Int) := by omega
  have mixed : Try.prog.follows .mixedOrders = true := by kernel_rfl
  have hwr : IntKind.i64.wrap ((i : Int) + 1) = (i : Int) + 1 := by rw [IntWalk.i64_in _ ⟨by omega, by omega⟩]
  clear h HM HM2 HM3 hrz hcpA hcpB hold hROW hG hX hY hfin hRs hGm hw1 hw2 hOld hone hfl hXl hX2 hYl hcut hmid hA hD hsz hin hz0 hzs hz2 hd9 hnl hcn
  go_enter Try.func60, Try.ntmps60
  have hA9 := HA.out _ hE1 hE2
  go_wp2_with (at_builtin; refine Lib.wpList_append_run _ rfl _ _ _ _ rfl _ _ rfl rfl _ _ (HRZ.out _) ?_)
  go_region_law_o (refine step_copy_runI rfl _ _ 24 24 rfl (.slice (some ⟨W.heap.size, (i + 1) * 3, none⟩) (n + 1 - (i + 1)) (G - (i + 1))) (.slice (some ⟨g, i * 3, none⟩) (n - i) (c - i)) (by simp [Act.eval, Act.put]) (by simp [Act.eval, Act.put]) (HB.out _ hF1 hF2 3 (G - (i + 1)) (c - i)) ?_)
  go_wp2_with fail
  go_ret
  exact ⟨_, rfl, HF.out⟩
set_option maxRecDepth 100000 in
set_option maxHeartbeats 4000000 in
/-- Within, where there is room: in place. -/
theorem insertRoom {w0 W : World} {S : List Str} {n c vb i g : Nat} {L : List LsM} {x : LsM} (h : OwS w0 W (bxS vb (lsC x) :: S) 35 3 (.slice (some ⟨g, 0, none⟩) n c) n (lsS L)) (hvb : W.heap[vb]? = some (.cells (lsC x).toArray 35 (0, 0))) (hnl : n = L.length) (hl : n ≤ 1048576) (hi : i < n) (hcn : n + 1 ≤ c) :
    Calls Try.prog 60 #[.slice (some ⟨g, 0, none⟩) n c, .int .i64 (i : Nat), .slice (some ⟨vb, 0, none⟩) 1 1] W fun e W' => ∃ v', e = .returned v' ∧ OwS w0 W' (bxS vb (lsC x) :: S) 35 3 v' (n + 1) (lsS (L.take i ++ [x] ++ L.drop i)) := by
  obtain ⟨i0, hin, hz0, hzs, hz2⟩ := info_parts infoLease
  have hsz : (Try.prog.info? 35).map (·.size) = some 3 := by rw [hin]; simp [hzs]
  have hA : (lsS (L.take i)).length = i * 3 := by rw [lsS_len, List.length_take]; omega
  have hD : (lsS (L.drop i)).length = (n - i) * 3 := by rw [lsS_len, List.length_drop]; omega
  have hcut := ls_cut L i
  have hmid := ls_mid L i x
  obtain ⟨cur, hgh, hcs, hcm⟩ := h.heap
  have hne : vb ≠ g := by
    have := h.far g rfl _ (List.mem_cons_self ..)
    dsimp only [bxS] at this
    omega
  obtain ⟨R, HL, hlen⟩ := h.longer (Nat.le_succ n) hcn
  have hRl : R.length = 3 := by rw [List.length_append, lsS_len] at hlen; omega
  rw [hcut, List.append_assoc] at HL hlen
  have HL' := HL.drew
  have hfl := own_wcells HL'.own
  have hone : ∀ u ∈ lsC x, u.oneCell' = true := fun u hu => lss_one [x] u (by simpa [lsS] using hu)
  have hov : ∀ lb cb, (callFunc 72 #[.slice (some ⟨vb, 0, none⟩) 1 1, .slice (some ⟨g, (i + 1) * 3, none⟩) lb cb]).run Try.prog W = .ok (.value (.bool false)) W := fun lb cb => by
    rw [Go.run_callFunc_extern Try.func72 (by kernel_rfl) (by kernel_rfl) (by kernel_rfl) (e := Extern.SlicesOverlaps.overlaps #[24, 24] #[4]) (by kernel_rfl),
      Lib.run_overlaps_apart W 24 4 35 Try.underlying24 3 Try.sizeOf35 ⟨vb, 0, none⟩ ⟨g, (i + 1) * 3, none⟩ 1 1 lb cb hne 35 35 3 (c * 3) (by simp [World.shape?, hvb, lsC]) (by simp [World.shape?, hgh, hcs]) (by omega) (by simp [World.frozen?, hvb]) (by simp [World.frozen?, hvb])]
    rfl
  have hcp1 : ∀ ty dc sc, (Builtin.copy_ #[24, 24] ty #[.slice (some ⟨g, (i + 1) * 3, none⟩) (n + 1 - (i + 1)) dc, .slice (some ⟨g, i * 3, none⟩) (n + 1 - i) sc]).run Try.prog W.drew = .ok (goInt (n - i : Nat)) (W.drew.setCells g ((i + 1) * 3) (lsS (L.drop i))) := fun ty dc sc =>
    run_copy_any9 (P := Try.prog) W.drew _ _ ty 35 3 (n - i) g ((i + 1) * 3) (n + 1 - (i + 1)) dc ⟨g, i * 3, none⟩ (n + 1 - i) sc (lsS (L.drop i)) Try.underlying24 hsz (by simp only [Nat.min_def]; split <;> omega) hD
      (fun j v hj => by
        have hlt := (List.getElem?_eq_some_iff.1 hj).1
        rw [show (⟨g, i * 3, none⟩ : Addr).add j = ⟨g, i * 3 + j, none⟩ by cases j <;> simp [Addr.add]]
        exact (hfl.2 (i * 3 + j) v (by rw [List.getElem?_append_right (by rw [hA]; omega), hA, Nat.add_sub_cancel_left, List.getElem?_append_left hlt]; exact hj)).1)
      (fun j hj => by
        have := (hfl.2 ((i + 1) * 3 + j) _ (List.getElem?_eq_getElem (by rw [hlen]; rw [hD] at hj; omega))).1
        rw [this]; rfl)
      (fun j hj => (hfl.2 ((i + 1) * 3 + j) _ (List.getElem?_eq_getElem (by rw [hlen]; rw [hD] at hj; omega))).2) (fun u hu => lss_one (L.drop i) u hu)
  have HM2 := HL'.sets (lsS (L.drop i)) ((i + 1) * 3) _ _
  obtain ⟨W1, hW1⟩ : ∃ W1, W1 = W.drew.setCells g ((i + 1) * 3) (lsS (L.drop i)) := ⟨_, rfl⟩
  rw [← hW1] at HM2 hcp1
  have hw2 := own_wcells HM2.own
  have hX2 : (setL (lsS (L.take i) ++ (lsS (L.drop i) ++ R)) ((i + 1) * 3) (lsS (L.drop i))).length = (n + 1) * 3 := by rw [setL_len, hlen]
  have hcp2 : ∀ ty dc, (Builtin.copy_ #[24, 24] ty #[.slice (some ⟨g, i * 3, none⟩) (n + 1 - i) dc, .slice (some ⟨vb, 0, none⟩) 1 1]).run Try.prog W1 = .ok (goInt (1 : Nat)) (W1.setCells g (i * 3) (lsC x)) := fun ty dc =>
    run_copy_any9 (P := Try.prog) W1 _ _ ty 35 3 1 g (i * 3) (n + 1 - i) dc ⟨vb, 0, none⟩ 1 1 (lsC x) Try.underlying24 hsz (by simp only [Nat.min_def]; split <;> omega) rfl
      (fun j v hj => by
        rw [show (⟨vb, 0, none⟩ : Addr).add j = ⟨vb, j, none⟩ by cases j <;> simp [Addr.add]]
        exact (HM2.sl.bx 0 rfl j v hj).1)
      (fun j hj => by
        have := (hw2.2 (i * 3 + j) _ (List.getElem?_eq_getElem (by rw [hX2]; rw [lsC_len] at hj; omega))).1
        rw [this]; rfl)
      (fun j hj => (hw2.2 (i * 3 + j) _ (List.getElem?_eq_getElem (by rw [hX2]; rw [lsC_len] at hj; omega))).2) hone
  have HM3 := HM2.sets (lsC x) (i * 3) _ _
  have hfin : setL (setL (lsS (L.take i) ++ (lsS (L.drop i) ++ R)) ((i + 1) * 3) (lsS (L.drop i))) (i * 3) (lsC x) = lsS (L.take i ++ [x] ++ L.drop i) := by
    rw [hmid]
    have k := setL_mid2 (lsS (L.take i)) (lsS (L.drop i) ++ R) (lsC x) (lsS (L.drop i)) (by rw [List.length_append, hRl, lsC_len]; omega)
    rw [hA, lsC_len, show i * 3 + 3 = (i + 1) * 3 by omega] at k
    exact k
  rw [hfin] at HM3
  subst hW1
  have HF := Shut.mk HM3
  have HC1 := Shut.mk hcp1
  have h1 : (i : Int) ≤ (n : Int) := by omega
  have h2 : ¬ ((i : Int) = (n : Int)) := by omega
  have h2' : ((i : Int) == (n : Int)) = false := by simp; omega
  have h3 : ¬ (c : Int) < (n : Int) + 1 := by omega
  have h4 : ¬ (c = i) := by omega
  have h6 : ¬ (c = i + 1) := by omega
  have h7 : (i : Int) ≤ (c : Int) := by omega
  have h8 : (i : Int) ≤ (n : Int) + 1 := by omega
  have h9 : (i : Int) + 1 ≤ (n : Int) + 1 := by omega
  have h10 : ((i : Int) + 1).toNat = i + 1 := by omega
  have h11 : (0 : Int) ≤ (i : Int) + 1 := by omega
  have h12 : (n : Int) + 1 ≤ (c : Int) := by omega
  have hcl2 : c ≤ 9223372036854775807 := hcm
  have mixed : Try.prog.follows .mixedOrders = true := by kernel_rfl
  have hwr : IntKind.i64.wrap ((i : Int) + 1) = (i : Int) + 1 := by rw [IntWalk.i64_in _ ⟨by omega, by omega⟩]
  clear h HL HL' HM2 HM3 hcp1 hw2 hone hfl hX2 hcut hmid hA hD hsz hin hz0 hzs hz2 hnl hgh hcs hcm hlen hRl hfin hvb hne
  go_enter Try.func60, Try.ntmps60
  go_wp2_with (simp only [hov])
  go_region_law_o (refine step_copy_runI rfl _ _ 24 24 rfl (.slice (some ⟨g, (i + 1) * 3, none⟩) (n + 1 - (i + 1)) (c - (i + 1))) (.slice (some ⟨g, i * 3, none⟩) (n + 1 - i) (c - i)) (by simp [Act.eval, Act.put]) (by simp [Act.eval, Act.put]) (HC1.out 3 (c - (i + 1)) (c - i)) ?_)
  go_wp2_with fail
  go_ret
  exact ⟨_, rfl, HF.out⟩
/-- Anywhere. -/
theorem insertLease {w0 W : World} {S : List Str} {n c vb i : Nat} {av : Option Addr} {L : List LsM} {x : LsM} (h : OwS w0 W (bxS vb (lsC x) :: S) 35 3 (.slice av n c) n (lsS L)) (hvb : W.heap[vb]? = some (.cells (lsC x).toArray 35 (0, 0))) (hnl : n = L.length) (hl : n ≤ 1048576) (hi : i ≤ n) :
    Calls Try.prog 60 #[.slice av n c, .int .i64 (i : Nat), .slice (some ⟨vb, 0, none⟩) 1 1] W fun e W' => ∃ v', e = .returned v' ∧ OwS w0 W' (bxS vb (lsC x) :: S) 35 3 v' (n + 1) (lsS (L.take i ++ [x] ++ L.drop i)) := by
  by_cases hin : i = n
  · subst hin
    rw [List.take_of_length_le (by omega), List.drop_of_length_le (by omega), List.append_nil]
    exact insertEnd h hl
  · have hg : ∃ g, av = some ⟨g, 0, none⟩ := by
      rcases h.own.2 with ⟨e, e2⟩ | ⟨g, cap', cur, e, _⟩
      · omega
      · cases e; exact ⟨g, rfl⟩
    obtain ⟨g, rfl⟩ := hg
    have hnc : n ≤ c := (FRw.of_own h.own).2
    by_cases hc : n + 1 ≤ c
    · exact insertRoom h hvb hnl hl (by omega) hc
    · exact insertGrow h hnl hl (by omega) (by omega)
end Go.Proofs.Ytcnjjbgilpgceaa
/- GrwE: A region that draws its order, behind its last free operation: one alone may come up at a time: a call, or a value of the memory as it is. -/
namespace Go.Proofs.Ytcnjjbgilpgceaa
set_option maxRecDepth 100000
open Go.RowKit
section
variable {P : Program} {Q : Exit → Act → World → Prop} {md : Region.Mode}
/-- One alone may come up: a call; the rest behind it. -/
theorem wpA_mid {L r : List Oper} {i : Nat} {oi : Oper} {f : FuncId} {args : Array Value} {n : Nat} {l : Array Bool} {a : Act} {w : World} (hr : Region.ready md L.toArray l = [i]) (hi : L.drop i = oi :: r) (hw : Region.wanted oi (yielded L.toArray a.tmps) = true) (hy : (execOp a.eval oi).run P w = .ok (.enter f args) w)
    (h : Calls P f args w fun e y => ∃ v, e = .returned v ∧ wpAny P md L.toArray Q n (l.setIfInBounds i true) (a.put oi.dst v) y) : wpAny P md L.toArray Q (n + 1) l a w := by
  refine ⟨fun h => (by rw [hr] at h; cases h), fun j hj => ?_⟩
  rw [hr, List.mem_singleton] at hj
  subst hj
  unfold wpOp
  rw [at_drop hi]
  dsimp only
  rw [if_pos hw]
  refine Or.inl ?_
  unfold Oper.wp
  rw [hy]
  refine h.mono ?_
  rintro e y ⟨v, rfl, hq⟩
  exact hq
/-- One alone may come up: a value; the rest behind it. -/
theorem wpA_here {L r : List Oper} {i : Nat} {oi : Oper} {v : Value} {n : Nat} {l : Array Bool} {a : Act} {w y : World} (hr : Region.ready md L.toArray l = [i]) (hi : L.drop i = oi :: r) (hw : Region.wanted oi (yielded L.toArray a.tmps) = true) (hy : (execOp a.eval oi).run P w = .ok (.value v) y)
    (h : wpAny P md L.toArray Q n (l.setIfInBounds i true) (a.put oi.dst v) y) : wpAny P md L.toArray Q (n + 1) l a w := by
  refine ⟨fun h => (by rw [hr] at h; cases h), fun j hj => ?_⟩
  rw [hr, List.mem_singleton] at hj
  subst hj
  unfold wpOp
  rw [at_drop hi]
  dsimp only
  rw [if_pos hw]
  refine Or.inl ?_
  unfold Oper.wp
  rw [hy]
  exact h
/-- Two may come up, each a store: in either order. -/
theorem wpA_two {L r r' : List Oper} {i j : Nat} {oi oj : Oper} {n : Nat} {l : Array Bool} {a : Act} {w y z : World} (hr : Region.ready md L.toArray l = [i, j]) (hi : L.drop i = oi :: r) (hj : L.drop j = oj :: r') (hw : Region.wanted oi (yielded L.toArray a.tmps) = true) (hw' : Region.wanted oj (yielded L.toArray a.tmps) = true)
    (hy : (execOp a.eval oi).run P w = .ok .skip y) (hz : (execOp a.eval oj).run P w = .ok .skip z)
    (h : wpAny P md L.toArray Q n (l.setIfInBounds i true) (a.put oi.dst undef) y) (h' : wpAny P md L.toArray Q n (l.setIfInBounds j true) (a.put oj.dst undef) z) : wpAny P md L.toArray Q (n + 1) l a w := by
  refine ⟨fun h => (by rw [hr] at h; cases h), fun k hk => ?_⟩
  rw [hr] at hk
  rcases List.mem_cons.1 hk with rfl | hk
  · unfold wpOp
    rw [at_drop hi]
    dsimp only
    rw [if_pos hw]
    refine Or.inl ?_
    unfold Oper.wp
    rw [hy]
    exact h
  · rw [List.mem_singleton] at hk
    subst hk
    unfold wpOp
    rw [at_drop hj]
    dsimp only
    rw [if_pos hw']
    refine Or.inl ?_
    unfold Oper.wp
    rw [hz]
    exact h'
end
end Go.Proofs.Ytcnjjbgilpgceaa
