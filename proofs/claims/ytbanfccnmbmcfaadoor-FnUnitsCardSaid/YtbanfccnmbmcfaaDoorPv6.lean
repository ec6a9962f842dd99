/- Texts of ours, laid one behind the other: DrawP, DrHp, SpM, HpA, HpB, HpC, HpD, HpE. -/
import Derived.Test.YtbanfccnmbmcfaaDoorPv5
import Derived.OwnWalk
import Derived.OpenShut
import Derived.Handy
import Derived.Test.YtbanfccnmbmcfaaDoorShelf
import Derived.Laws.MakeOwn
import Derived.Deep.AppendLies
import Derived.Laws.StructEq
/- DrawP: The draws of a text and of places: what is drawn lies within its bounds; nothing that was there is turned. -/
namespace Go.Proofs.YtbanfccnmbmcfaaDoor
set_option maxRecDepth 100000
open Go.RowKit

def SumDrawn (w : World) (e : Ending) (w' : World) : Prop := ∃ t : ByteArray, e = .returned (.string t) ∧ t.size ≤ 40 ∧ Below w.heap.size w w'
theorem infoInt : (Tryd.prog.info? 3).map (fun i => (i.zero, i.size, i.bytes)) = some (some (.int .i64 0), 1, 8) := by kernel_rfl
/-- Numbers, as the model holds them. -/
def iv (l : List Int) : List Value := l.map fun x => .int .i64 x
theorem row_step {w wr w2 w3 : World} {g B len cap n : Nat} {t : TypeId} {a : Option Addr} {v : Value} {vs : List Value} {o : Obj} (hs : w.heap.size ≤ wr.heap.size) (hgw : g < w.heap.size)
    (hg : w.grownBy wr (some g)) (hg2 : wr.grownBy w2 (some g)) (hc2 : Cur w2 g B a len cap) (hown : w2.ownsRow w.heap.size t 1 v n vs) (hgr : (w2.alloc o).grownBy w3 v.ownBlock) :
    Cur w3 g B a len cap ∧ w.grownBy w3 (some g) := by
  have hlt := hown.lt
  have h2s : wr.heap.size ≤ w2.heap.size := hg2.size
  have hb3 : Below w.heap.size w2 w3 := ((Below.refl _ _).alloc (by omega) o).grown hgr (by simp; omega) (fun j hj => (hlt j hj).1)
  refine ⟨?_, ⟨(hb3.os.trans hg2.os).trans hg.os, (hb3.tape.trans hg2.tape).trans hg.tape, (hb3.output.trans hg2.output).trans hg.output, by have := hb3.size; omega, fun k hk hn => (hb3.block k hk).trans ((hg2.block k (by omega) hn).trans (hg.block k hk hn))⟩⟩
  obtain ⟨hB, hgs, hcode, c0, ⟨i, c1, hi⟩, ⟨k, c2⟩, hf⟩ := hc2
  exact ⟨hB, by have := hb3.size; omega, hcode.below hb3 (by omega), (hb3.cell (p := ⟨g, 0, none⟩) hgw).trans c0, ⟨i, (hb3.cell (p := ⟨g, 1, none⟩) hgw).trans c1, hi⟩, ⟨k, (hb3.cell (p := ⟨g, 2, none⟩) hgw).trans c2⟩, fun j hj => (hb3.frozen (p := ⟨g, j, none⟩) hgw).trans (hf j hj)⟩
theorem own_gbr {w w' : World} {g C n : Nat} {t : TypeId} {v : Value} {vs : List Value} (h : w.ownsRow C t 1 v n vs) (hg : w.grownBy w' (some g)) (hC : g < C) : w'.ownsRow C t 1 v n vs :=
  h.kept hg (by
    cases hv : v.ownBlock with
    | none => exact .inl rfl
    | some j => right; have := (h.lt j hv).1; simp; omega)
/-- The places that are drawn: twelve numbers below 10000 in a block of their own. -/
def PlacesDrawn (w : World) (e : Ending) (w' : World) : Prop :=
  ∃ (gp cap : Nat) (l : List Int), e = .returned (.slice (some ⟨gp, 0, none⟩) 12 cap) ∧ w.heap.size ≤ gp ∧ gp < w'.heap.size ∧ l.length = 12 ∧ (∀ x ∈ l, 0 ≤ x ∧ x < 10000) ∧ (∀ j, j < 12 → w'.cell? ⟨gp, j, none⟩ = some (.int .i64 (l.getD j 0))) ∧ Below w.heap.size w w'
theorem places_post {w w1 w' : World} {g n : Nat} {v : Value} {l : List Int} (hw : w.heap.size ≤ w1.heap.size) (hl : l.length = 12) (hx : ∀ x ∈ l, 0 ≤ x ∧ x < 10000) (hn : n = 12) (hown : w'.ownsRow w1.heap.size 3 1 v n (iv l)) (hb1 : Below w.heap.size w w1) (hg : w.heap.size ≤ g) (hgb : w1.grownBy w' (some g)) :
    PlacesDrawn w (.returned v) w' := by
  subst hn
  have hlt := hown.lt
  have hc : ∀ g, v.ownBlock = some g → ∀ j u, (iv l)[j]? = some u → w'.cell? ((⟨g, 0, none⟩ : Addr).add j) = some u := fun g hg => hown.cells hg
  obtain ⟨h1, ⟨rfl, h0⟩ | ⟨gp, cap, cur, rfl, _⟩⟩ := hown
  · omega
  · have h2 := hlt gp rfl
    refine ⟨gp, cap, l, rfl, by omega, h2.2, hl, hx, fun j hj => ?_, hb1.trans (below_gb hgb hg hw)⟩
    have h3 := hc gp rfl j (.int .i64 (l.getD j 0)) (by simp [iv, List.getD, show j < l.length by omega])
    have e : (⟨gp, 0, none⟩ : Addr).add j = ⟨gp, j, none⟩ := by cases j <;> simp [Addr.add]
    rwa [e] at h3
set_option maxHeartbeats 1000000 in
theorem drawPlaces_any (w : World) (a : Option Addr) (len cap : Nat) (hc : CodeAt w w.heap.size a len) :
    Calls Tryd.prog 10 #[.slice a len cap] w fun e w' => PlacesDrawn w e w' := by
  obtain ⟨i0, hi, hz0, hz1, hz2⟩ := info_parts infoInt
  have HC : Hid (CodeAt w w.heap.size a len) := hc
  clear hc
  go_enter Tryd.func10, Tryd.ntmps10
  go_wp2_with fail
  refine (l01New_any _ a len cap HC.out).mono ?_
  rintro e w0 ⟨g, rfl, hg, hcur, hb0⟩
  have HC0 : Hid (Cur w0 g w.heap.size a len cap) := hcur
  have HB0 : Hid (Below w.heap.size w w0) := hb0
  clear hcur hb0
  go_wp2_with fail
  refine (l01Byte_any _ g _ a len cap HC0.out).mono ?_
  rintro e w1 ⟨x, rfl, _, _, hc1, hg1⟩
  have HC1 : Hid (Cur w1 g w.heap.size a len cap) := hc1
  have HB1 : Hid (Below w.heap.size w w1) := HB0.out.trans (below_gb hg1 hg HB0.out.size)
  have hgw : g < w1.heap.size := hc1.2.1
  clear hc1 hg1 HC0 HB0
  go_wp2_with fail
  go_loopw [4, 5] (fun v i wr => ∃ (k : Nat) (l : List Int), i = .int .i64 k ∧ k ≤ 12 ∧ l.length = k ∧ (∀ x ∈ l, 0 ≤ x ∧ x < 10000) ∧ Cur wr g w.heap.size a len cap ∧ w1.grownBy wr (some g) ∧ wr.ownsRow w1.heap.size 3 1 v k (iv l)) (fun _ i _ => 12 - (intOf i).toNat)
  case atStart => exact ⟨0, [], rfl, by omega, rfl, by simp, HC1.out.below ((Below.refl _ _).alloc (Nat.le_refl _) _), gb_below ((Below.refl _ _).alloc (Nat.le_refl _) _), World.ownsRow_made w1 #[] 0 (Nat.le_refl _) (by decide) rfl⟩
  case round =>
    obtain ⟨k, l, rfl, hk, hlk, hlx, hcr, hgr, hown⟩ := hrel
    have HCr : Hid (Cur wr g w.heap.size a len cap) := hcr
    have HGr : Hid (w1.grownBy wr (some g)) := hgr
    have HL : Hid (l.length = k ∧ ∀ x ∈ l, 0 ≤ x ∧ x < 10000) := ⟨hlk, hlx⟩
    have hs1 := hgr.size
    clear hcr hgr hlk hlx
    by_cases hlt : k < 12
    · have hlt' : (k : Int) < 12 := by omega
      go_wp2_with fail
      refine (l01Below_any _ g _ a len cap 10000 (by omega) HCr.out).mono ?_
      rintro e w2 ⟨y, rfl, y0, y1, hc2, hg2⟩
      have HC2 : Hid (Cur w2 g w.heap.size a len cap) := hc2
      have HG2 : Hid (wr.grownBy w2 (some g)) := hg2
      have hown2 := own_gbr hown hg2 hgw
      have hs2 := hg2.size
      clear hc2 hg2 hown
      go_wp2_with (at_builtin; refine wpList_append_own _ rfl _ _ 28 rfl w1.heap.size 3 i0 (.int .i64 0) 1 8 Tryd.underlying28 hi hz0 hz1 hz2 rfl (by decide) _ _ _ rfl (hown2.alloc _) ⟨w2.heap.size, 0, none⟩ 1 1 [.int .i64 _] rfl rfl (cell_one_new _ _ _) ?c2 ?c3 ?c4 ?c5 ?_)
      case c2 => first | rfl | (intro u hu; simp at hu; subst hu; rfl)
      case c3 => unfold maxLen; omega
      case c4 => omega
      case c5 => first | omega | (simp; omega)
      · intro v' w3 hown' hgrow _
        obtain ⟨q1, q2⟩ := row_step hs1 hgw HGr.out HG2.out HC2.out hown2 hgrow
        have q3 : w3.ownsRow w1.heap.size 3 1 v' (k + 1) (iv (l ++ [y])) := by
          simpa [iv] using hown'
        clear hown' hgrow hown2
        go_wp2_with fail
        go_roundw
        case rel => exact ⟨k + 1, l ++ [y], by go_num, by omega, by have := HL.out.1; simp; omega, by intro x hx; rcases List.mem_append.1 hx with h | h; exact HL.out.2 x h; simp at h; subst h; omega, q1, q2, q3⟩
        case measure => simp [intOf]; omega
    · obtain rfl : k = 12 := by omega
      go_wp2_with fail
      go_ret
      exact places_post HB1.out.size HL.out.1 HL.out.2 rfl hown HB1.out hg HGr.out
theorem cell_block {w : World} {a : Addr} {v : Value} (h : w.cell? a = some v) : a.block < w.heap.size := by
  by_cases hb : a.block < w.heap.size
  · exact hb
  · unfold World.cell? at h
    rw [Array.getElem?_eq_none (by omega)] at h
    simp at h
theorem code_at {w : World} {a : Option Addr} {len cap : Nat} {zs : List Int} (hl : len ≤ 1048576)
    (h : (a = none ∧ len = 0) ∨ ∃ x, a = some x ∧ len ≤ cap ∧ zs.length = cap ∧ (∀ i, i < zs.length → w.cell? (x.add i) = some (.int .u8 (zs.getD i 0))) ∧ ∀ n ∈ zs, (Lit.int .u8 n).wf = true) : CodeAt w w.heap.size a len := by
  refine ⟨hl, fun hp => ?_⟩
  rcases h with ⟨_, h0⟩ | ⟨x, rfl, hlc, hz, hc, hw⟩
  · omega
  · obtain ⟨b, off, spot⟩ := x
    have hs : spot = none := by simpa [Addr.add] using World.cell?_spot (hc 0 (by omega))
    subst hs
    refine ⟨b, off, rfl, ?_, fun j hj => ?_⟩
    · have := cell_block (hc 0 (by omega)); simpa [Addr.add] using this
    · have h1 := hc j (by omega)
      have e : (⟨b, off, none⟩ : Addr).add j = ⟨b, off + j, none⟩ := by cases j <;> simp [Addr.add]
      rw [e] at h1
      have hm : zs.getD j 0 ∈ zs := by
        have : j < zs.length := by omega
        simp [List.getD, this]
      have := bounds_u8 (hw _ hm)
      exact ⟨_, h1, this.1, by omega⟩
theorem big_any (a : Option Addr) (len cap : Nat) (w : World) :
    Calls Tryd.prog 8 #[.slice a len cap] w fun e w' => e = .returned (.bool (decide ((1048576 : Int) < len))) ∧ w' = w := by
  go_enter Tryd.func8, Tryd.ntmps8
  go_wp2_with fail
  go_ret
  exact ⟨rfl, rfl⟩
end Go.Proofs.YtbanfccnmbmcfaaDoor
/- DrHp: The draw of a host from a code; the places of a law, as a stretch. -/
namespace Go.Proofs.YtbanfccnmbmcfaaDoor
set_option maxRecDepth 100000
open Go.RowKit BigFrame
attribute [local go_sem ↓] Go.wp_at_zero Go.wp_at_succ

theorem Cur.low {w W : World} {g B len cap : Nat} {a : Option Addr} (h : Cur W g B a len cap) (hc : CodeAt w w.heap.size a len) (hb : Below w.heap.size w W) (hg : w.heap.size ≤ g) : Cur W g w.heap.size a len cap :=
  ⟨hg, h.2.1, hc.below hb (Nat.le_refl _), h.2.2.2⟩
def HostDrawn (w : World) (e : Ending) (w' : World) : Prop := ∃ (id : Int) (us : List UnM) (b : Option Addr) (c : Nat), e = .returned (.agg #[.int .i64 id, .bool true, .slice b us.length c]) ∧ HGood id us 7 ∧ us.length ≤ c ∧ FRw w' b (unS us) w.heap.size w'.heap.size ∧ Below w.heap.size w w'
set_option maxRecDepth 100000 in
set_option maxHeartbeats 1000000 in
theorem drawHost_any (w : World) (a : Option Addr) (len cap : Nat) (hc : CodeAt w w.heap.size a len) :
    Calls Tryd.prog 9 #[.slice a len cap] w fun e w' => HostDrawn w e w' := by
  have HC := Shut.mk hc
  have HS := Shut.mk ((SL.start w).new #[.int .i64 0, .bool false, .slice none 0 0] 26)
  clear hc
  go_enter Tryd.func9, Tryd.ntmps9
  go_upto_region 1 with fail
  refine wp_shade (fun W => SL w W [bxS w.heap.size [.int .i64 0, .bool false, .slice none 0 0]]) HS.out ?_
  intro W0 hW
  have H := Shut.mk hW
  clear HS hW
  go_upto_region 2 with (first
    | (go_at_call 30; refine (l01New_any _ a len cap ⟨HC.out.1, fun hp => by obtain ⟨b, off, e, lb, hx⟩ := HC.out.2 hp; exact ⟨b, off, e, Nat.lt_of_lt_of_le lb H.out.bel.size, fun j hj => by obtain ⟨x, h1, h2⟩ := hx j hj; exact ⟨x, (H.out.bel.cell (p := ⟨b, off + j, none⟩) lb).trans h1, h2⟩⟩⟩).mono ?_; rintro e w1 ⟨g, rfl, hg, hcur, hb1⟩; have HSD : Shut (SD w w1 g w.heap.size a len cap [bxS w.heap.size [.int .i64 0, .bool false, .slice none 0 0]]) := ⟨⟨H.out.below hb1, hcur.low HC.out (H.out.below hb1).bel (Nat.le_trans H.out.bel.size hg), fun s hs => by rw [List.mem_singleton] at hs; subst hs; exact .inl (Nat.le_trans (H.out.is _ (List.mem_singleton.2 rfl)).2.2.2 hg), Nat.le_trans H.out.bel.size hg, Nat.le_refl _⟩⟩; clear hcur hb1 hg)
    | (go_at_call 29; refine (l14Host_any w _ g _ a len cap _ HSD.out).mono ?_; rintro e w2 ⟨⟨id, up, us⟩, b, c, lo, hi, rfl, hgood, hlc, hsd⟩; have HG := Shut.mk hgood; have HL := Shut.mk hlc; have H2 := Shut.mk hsd.sl; clear hgood hlc hsd HSD H))
  dsimp only [hov] at *
  obtain ⟨n, hn⟩ : ∃ n, n = us.length := ⟨_, rfl⟩
  have HN := Shut.mk hn
  have HS3 := Shut.mk (H2.out.new #[.int .i64 id, .bool up, .slice b us.length c] 26)
  rw [← hn] at HS3 ⊢
  obtain ⟨hb, hhb⟩ : ∃ q, q = w2.heap.size := ⟨_, rfl⟩
  rw [← hhb] at HS3
  refine wp_shade (fun W => SL w W [bxS hb [.int .i64 id, .bool up, .slice b n c], rwS b (unS us) lo hi, bxS w.heap.size [.int .i64 0, .bool false, .slice none 0 0]]) HS3.out ?_
  intro W3 hW
  rw [← hhb]
  have H3 := Shut.mk hW
  clear hW HS3 H2 hhb hn
  obtain ⟨o1, o1z⟩ := H3.out.bx 0 rfl 1 _ rfl
  have HP := Shut.mk (H3.out.put 0 rfl 1 (.bool true) (by simp))
  simp only [List.set_cons_zero, List.set_cons_succ] at HP
  go_upto_region 3 with fail
  refine wp_shade (fun W => SL w W [bxS hb [.int .i64 id, .bool true, .slice b n c], rwS b (unS us) lo hi, bxS w.heap.size [.int .i64 0, .bool false, .slice none 0 0]]) HP.out ?_
  intro W4 hW
  clear H3 HP o1 o1z
  have H := Shut.mk hW
  clear hW
  have z0 := (H.out.bx 0 rfl 0 _ rfl).1
  have z1 := (H.out.bx 0 rfl 1 _ rfl).1
  have z2 := (H.out.bx 0 rfl 2 _ rfl).1
  obtain ⟨r0, r0z⟩ := H.out.bx 2 rfl 0 _ rfl
  obtain ⟨r1, r1z⟩ := H.out.bx 2 rfl 1 _ rfl
  obtain ⟨r2, r2z⟩ := H.out.bx 2 rfl 2 _ rfl
  go_wp2_with fail
  have HE := Shut.mk ((((H.out.put 2 rfl 0 (.int .i64 id) (by simp)).put 2 rfl 1 (.bool true) (by simp)).put 2 rfl 2 (.slice b n c) (by simp)))
  have hs := HE.out.is _ (List.mem_of_getElem? (show _[1]? = some (rwS b (unS us) lo hi) from rfl))
  refine bodyPost_ret (v := .agg #[.int .i64 id, .bool true, .slice b n c]) (by simp [results, Tryd.results9, go_sem, r0, r1, r2]) rfl ?_
  exact ⟨id, us, b, c, by rw [HN.out], HG.out, HL.out, frw_wide (show FRw _ _ (unS us) lo hi from hs.1) hs.2.2.1 hs.2.2.2, HE.out.bel⟩
/-- The places that were drawn. -/
abbrev plS (gp : Nat) (l : List Int) : Str := ⟨fun W => gp < W.heap.size ∧ ∀ j, j < 12 → W.cell? ⟨gp, j, none⟩ = some (.int .i64 (l.getD j 0)), gp, gp + 1⟩
theorem plS.loc (gp : Nat) (l : List Int) : (plS gp l).Loc := fun W W' lo hi h t hd => by
  have hb : W'.heap[gp]? = W.heap[gp]? := t.block gp h.1 (by rcases hd with e | e <;> (dsimp only [plS] at e; omega))
  exact ⟨Nat.lt_of_lt_of_le h.1 t.size, fun j hj => (World.cell?_of_block (a := ⟨gp, j, none⟩) hb).trans (h.2 j hj)⟩
end Go.Proofs.YtbanfccnmbmcfaaDoor
/- SpM: The model's DropUnit (written by gen/mkdrop.py). -/
namespace Go.Proofs.YtbanfccnmbmcfaaDoor
set_option maxRecDepth 100000
open Go.RowKit BigFrame
attribute [local go_sem ↓] Go.wp_at_zero Go.wp_at_succ

theorem run_append_op {P : Program} {w y : World} {o : Oper} {a : Act} {s x : Operand} {t : TypeId} {v1 v2 v : Value} (ho : o.op = .call { callee := .builtin .append, args := #[s, x], argTypes := #[t, t] }) (hs : a.eval s = v1) (hx : a.eval x = v2) (hr : ∀ ty, (Builtin.append_ #[t, t] ty #[v1, v2]).run P w = .ok v y) : (execOp a.eval o).run P w = .ok (.value v) y := by
  simp [execOp, ho, resolve, invoke, builtin, hs, hx, hr, Result.andThen]
theorem setCells_setW (w : World) (g off : Nat) (vs : List Value) : w.setCells g off vs = setW w g off vs := by
  induction vs generalizing w off with
  | nil => rfl
  | cons v vs ih => exact ih _ _
theorem WCells.pre {w : World} {g : Nat} {A B : List Value} (h : WCells w g (A ++ B)) : WCells w g A :=
  ⟨h.1, fun i v hv => h.2 i v (by rw [List.getElem?_append_left (List.getElem?_eq_some_iff.1 hv).1]; exact hv)⟩
theorem turned_setW (w : World) (g off : Nat) (vs : List Value) {lo hi : Nat} (h1 : lo ≤ g) (h2 : g < hi) : Turned w (setW w g off vs) lo hi := by
  induction vs generalizing w off with
  | nil => exact Turned.refl _ _ _
  | cons v vs ih => exact (Turned.of_grown (gb_set' w g off v) h1 h2).trans (ih _ _)
theorem uns_app (a b : List UnM) : unS (a ++ b) = unS a ++ unS b := by simp [unS]
/-- What stands behind a place moves up by one. -/
theorem uns_shift (us : List UnM) (k : Nat) (h : k < us.length) : ∃ R, setL (unS us) (k * 4) (unS (us.drop (k + 1))) = unS (us.take k ++ us.drop (k + 1)) ++ R := by
  refine ⟨unS ((us.drop k).drop (us.length - k - 1)), ?_⟩
  have e1 : unS us = unS (us.take k) ++ unS (us.drop k) := by rw [← uns_app, List.take_append_drop]
  have e2 : unS (us.drop k) = unS ((us.drop k).take (us.length - k - 1)) ++ unS ((us.drop k).drop (us.length - k - 1)) := by rw [← uns_app, List.take_append_drop]
  have l1 : (unS (us.take k)).length = k * 4 := by rw [unS_len, List.length_take, Nat.min_eq_left (by omega)]
  rw [e1, show k * 4 = (unS (us.take k)).length + 0 by omega, setL_app, e2, setL_head _ _ _ (by rw [unS_len, unS_len, List.length_take, List.length_drop, List.length_drop, Nat.min_eq_left (by omega)]; congr 1), uns_app, List.append_assoc]
end Go.Proofs.YtbanfccnmbmcfaaDoor
/- HpA: The program's own: one unit held against another; units and hosts that are right (written by gen/mkhpa.py). -/
namespace Go.Proofs.YtbanfccnmbmcfaaDoor
set_option maxRecDepth 100000
open Go.RowKit BigFrame
attribute [local go_sem ↓] Go.wp_at_zero Go.wp_at_succ

def cmpI (x y : Int) : Int := if x < y then -1 else if y < x then 1 else 0
def cmpU (a b : UnM) : Int := if cmpI a.group b.group = 0 then cmpI a.index b.index else cmpI a.group b.group
theorem cmpI_is (x y : Int) : (x < y ∧ cmpI x y = -1) ∨ (y < x ∧ cmpI x y = 1) ∨ (x = y ∧ cmpI x y = 0) := by
  unfold cmpI
  split
  · exact .inl ⟨by assumption, rfl⟩
  · split
    · exact .inr (.inl ⟨by assumption, rfl⟩)
    · exact .inr (.inr ⟨by omega, rfl⟩)
theorem cmpU_neg (a b : UnM) : cmpU a b < 0 ↔ unLt a b = true := by
  rw [lt_iff]
  unfold cmpU
  have h1 := cmpI_is a.group b.group
  have h2 := cmpI_is a.index b.index
  split <;> omega
theorem cmpU_zero (a b : UnM) : cmpU a b = 0 ↔ unSame a b = true := by
  rw [same_iff]
  unfold cmpU
  have h1 := cmpI_is a.group b.group
  have h2 := cmpI_is a.index b.index
  split <;> omega
theorem nan_int (x : Int) (w : World) : Calls Tryd.prog 71 #[.int .i64 x] w fun e w' => e = .returned (.bool false) ∧ w' = w := by
  have h : (x != x) = false := by simp
  go_enter Tryd.func71, Tryd.ntmps71
  go_wp2_with fail
  go_ret
  exact ⟨rfl, rfl⟩
theorem cmp_int (x y : Int) (w : World) : Calls Tryd.prog 64 #[.int .i64 x, .int .i64 y] w fun e w' => e = .returned (.int .i64 (cmpI x y)) ∧ w' = w := by
  have HN := Shut.mk (fun z => nan_int z w)
  rcases cmpI_is x y with ⟨h, e⟩ | ⟨h, e⟩ | ⟨h, e⟩
  · rw [e]
    clear e
    go_enter Tryd.func64, Tryd.ntmps64
    go_wp2_with (go_at_call 71; refine (HN.out _).mono ?_; rintro e w1 ⟨rfl, hw1⟩; subst hw1)
    go_ret
    exact ⟨rfl, rfl⟩
  · rw [e]
    have h1 : ¬ x < y := by omega
    clear e
    go_enter Tryd.func64, Tryd.ntmps64
    go_wp2_with (go_at_call 71; refine (HN.out _).mono ?_; rintro e w1 ⟨rfl, hw1⟩; subst hw1)
    go_ret
    exact ⟨rfl, rfl⟩
  · rw [e]
    have h1 : ¬ x < y := by omega
    have h2 : ¬ y < x := by omega
    clear e h
    go_enter Tryd.func64, Tryd.ntmps64
    go_wp2_with (go_at_call 71; refine (HN.out _).mono ?_; rintro e w1 ⟨rfl, hw1⟩; subst hw1)
    go_ret
    exact ⟨rfl, rfl⟩
theorem or_two (g : Nat) (x y : Int) (c : Nat) (w : World) (h0 : w.cell? ⟨g, 0, none⟩ = some (.int .i64 x)) (h1 : w.cell? ⟨g, 1, none⟩ = some (.int .i64 y)) :
    Calls Tryd.prog 63 #[.slice (some ⟨g, 0, none⟩) 2 c] w fun e w' => e = .returned (.int .i64 (if x = 0 then y else x)) ∧ w' = w := by
  obtain ⟨R, hR⟩ : ∃ R, R = if x = 0 then y else x := ⟨_, rfl⟩
  rw [← hR]
  have HR := Shut.mk hR
  clear hR
  go_enter Tryd.func63, Tryd.ntmps63
  go_wp2_with fail
  go_loop [8] (fun i9 => ∃ (k : Nat), i9 = .int .i64 k ∧ k ≤ 2 ∧ Shut (1 ≤ k → x = 0) ∧ Shut (2 ≤ k → y = 0)) (fun i9 => 2 - (intOf i9).toNat)
  case atStart => exact ⟨0, rfl, by omega, ⟨by omega⟩, ⟨by omega⟩⟩
  case round =>
    obtain ⟨k, rfl, hk, HX, HY⟩ := hrel
    match k, hk with
    | 0, _ =>
      by_cases hx : x = 0
      · have hx1 : (x != 0) = false := by simp [hx]
        have HX0 := Shut.mk hx
        clear hx
        go_wp2_with fail
        go_round
        case rel => exact ⟨1, by go_num, by omega, ⟨fun _ => HX0.out⟩, ⟨by omega⟩⟩
        case measure => simp [intOf]
      · have hx1 : (x != 0) = true := by simp [hx]
        have HE : Shut (R = x) := ⟨by rw [HR.out, if_neg hx]⟩
        clear hx
        go_wp2_with fail
        go_ret
        exact ⟨by rw [HE.out]; rfl, rfl⟩
    | 1, _ =>
      have HE : Shut (R = y) := ⟨by rw [HR.out, if_pos (HX.out (Nat.le_refl _))]⟩
      by_cases hy : y = 0
      · have hy1 : (y != 0) = false := by simp [hy]
        have HY0 := Shut.mk hy
        clear hy
        go_wp2_with fail
        go_round
        case rel => exact ⟨2, by go_num, by omega, ⟨fun _ => HX.out (Nat.le_refl _)⟩, ⟨fun _ => HY0.out⟩⟩
        case measure => simp [intOf]
      · have hy1 : (y != 0) = true := by simp [hy]
        clear hy
        go_wp2_with fail
        go_ret
        exact ⟨by rw [HE.out]; rfl, rfl⟩
    | 2, _ =>
      have HE : Shut (R = 0) := ⟨by rw [HR.out, if_pos (HX.out (by omega)), HY.out (Nat.le_refl _)]⟩
      go_wp2_with fail
      go_ret
      exact ⟨by rw [HE.out]; rfl, rfl⟩
set_option maxRecDepth 100000 in
set_option maxHeartbeats 1000000 in
theorem implCmp (a b : UnM) (w : World) : Calls Tryd.prog 43 #[unv a, unv b] w fun e w' => e = .returned (.int .i64 (cmpU a b)) ∧ Below w.heap.size w w' := by
  have HS0 := Shut.mk (((SL.start w).new #[.int .i64 a.group, .int .i64 a.index, .string a.text, .int .i64 a.sum] 32).new #[.int .i64 b.group, .int .i64 b.index, .string b.text, .int .i64 b.sum] 32)
  simp only [World.size_alloc] at HS0
  have HQ : Shut (cmpU a b = if cmpI a.group b.group = 0 then cmpI a.index b.index else cmpI a.group b.group) := ⟨rfl⟩
  have HC1 := Shut.mk (fun x => cmp_int a.group b.group x)
  have HC2 := Shut.mk (fun x => cmp_int a.index b.index x)
  generalize cmpU a b = R at HQ ⊢
  obtain ⟨ag, ai, at9, as9⟩ := a
  obtain ⟨bg, bi, bt, bs⟩ := b
  dsimp only at *
  generalize cmpI ag bg = c1 at HQ HC1
  generalize cmpI ai bi = c2 at HQ HC2
  go_enter Tryd.func43, Tryd.ntmps43
  go_upto_region 1 with fail
  refine wp_shade (fun W => SL w W [bxS (w.heap.size + 1) [.int .i64 bg, .int .i64 bi, .string bt, .int .i64 bs], bxS w.heap.size [.int .i64 ag, .int .i64 ai, .string at9, .int .i64 as9]]) HS0.out ?_
  intro W0 hW
  have HT : Shut (∀ x, Later W0.drew x → SL w x [bxS (w.heap.size + 1) [.int .i64 bg, .int .i64 bi, .string bt, .int .i64 bs], bxS w.heap.size [.int .i64 ag, .int .i64 ai, .string at9, .int .i64 as9]]) := ⟨fun x hx => hW.drew.below hx⟩
  have HLE : Shut (∀ x, Later W0.drew x → x.cell? ⟨w.heap.size, 0, none⟩ = some (.int .i64 ag) ∧ x.cell? ⟨w.heap.size, 1, none⟩ = some (.int .i64 ai) ∧ x.cell? ⟨w.heap.size + 1, 0, none⟩ = some (.int .i64 bg) ∧ x.cell? ⟨w.heap.size + 1, 1, none⟩ = some (.int .i64 bi)) := ⟨fun x hx => ⟨((HT.out x hx).bx 1 rfl 0 _ rfl).1, ((HT.out x hx).bx 1 rfl 1 _ rfl).1, ((HT.out x hx).bx 0 rfl 0 _ rfl).1, ((HT.out x hx).bx 0 rfl 1 _ rfl).1⟩⟩
  clear HS0 hW
  refine wp_region_later (by kernel_rfl) ?_
  refine wpL_val (i := 0) (v := ?v0) rfl (by kernel_rfl) (by kernel_rfl) (by kernel_rfl) (fun _ _ _ h => h) (by rfl) ?hy0 ?rest0
  case hy0 => (intro x hx; obtain ⟨c0, c1, c2, c3⟩ := HLE.out x hx; go_simp; try with_reducible rfl)
  try simp only [Act.put, List.setIfInBounds_toArray, List.set_cons_zero, List.set_cons_succ]
  refine wpL_val (i := 1) (v := ?v1) rfl (by kernel_rfl) (by kernel_rfl) (by kernel_rfl) (fun _ _ _ h => h) (by rfl) ?hy1 ?rest1
  case hy1 => (intro x hx; obtain ⟨c0, c1, c2, c3⟩ := HLE.out x hx; go_simp; try with_reducible rfl)
  try simp only [Act.put, List.setIfInBounds_toArray, List.set_cons_zero, List.set_cons_succ]
  refine wpL_val (i := 2) (v := ?v2) rfl (by kernel_rfl) (by kernel_rfl) (by kernel_rfl) (fun _ _ _ h => h) (by rfl) ?hy2 ?rest2
  case hy2 => (intro x hx; obtain ⟨c0, c1, c2, c3⟩ := HLE.out x hx; go_simp; try with_reducible rfl)
  try simp only [Act.put, List.setIfInBounds_toArray, List.set_cons_zero, List.set_cons_succ]
  refine wpL_val (i := 3) (v := ?v3) rfl (by kernel_rfl) (by kernel_rfl) (by kernel_rfl) (fun _ _ _ h => h) (by rfl) ?hy3 ?rest3
  case hy3 => (intro x hx; obtain ⟨c0, c1, c2, c3⟩ := HLE.out x hx; go_simp; try with_reducible rfl)
  try simp only [Act.put, List.setIfInBounds_toArray, List.set_cons_zero, List.set_cons_succ]
  refine wpL_call (i := 4) (v := .int .i64 c1) (f := 64) (args := #[.int .i64 ag, .int .i64 bg]) rfl (by kernel_rfl) (by kernel_rfl) (by kernel_rfl) (fun _ _ _ h => h) (by rfl) ?hy4 (fun x _ => (HC1.out x).mono (by rintro e y ⟨rfl, hy⟩; subst hy; exact ⟨rfl, Later.refl _⟩)) ?rest4
  case hy4 => (intro x hx; obtain ⟨c0, c1, c2, c3⟩ := HLE.out x hx; go_simp; try with_reducible rfl)
  try simp only [Act.put, List.setIfInBounds_toArray, List.set_cons_zero, List.set_cons_succ]
  refine wpL_val (i := 5) (v := ?v5) rfl (by kernel_rfl) (by kernel_rfl) (by kernel_rfl) (fun _ _ _ h => h) (by rfl) ?hy5 ?rest5
  case hy5 => (intro x hx; obtain ⟨c0, c1, c2, c3⟩ := HLE.out x hx; go_simp; try with_reducible rfl)
  try simp only [Act.put, List.setIfInBounds_toArray, List.set_cons_zero, List.set_cons_succ]
  refine wpL_val (i := 6) (v := ?v6) rfl (by kernel_rfl) (by kernel_rfl) (by kernel_rfl) (fun _ _ _ h => h) (by rfl) ?hy6 ?rest6
  case hy6 => (intro x hx; obtain ⟨c0, c1, c2, c3⟩ := HLE.out x hx; go_simp; try with_reducible rfl)
  try simp only [Act.put, List.setIfInBounds_toArray, List.set_cons_zero, List.set_cons_succ]
  refine wpL_val (i := 7) (v := ?v7) rfl (by kernel_rfl) (by kernel_rfl) (by kernel_rfl) (fun _ _ _ h => h) (by rfl) ?hy7 ?rest7
  case hy7 => (intro x hx; obtain ⟨c0, c1, c2, c3⟩ := HLE.out x hx; go_simp; try with_reducible rfl)
  try simp only [Act.put, List.setIfInBounds_toArray, List.set_cons_zero, List.set_cons_succ]
  refine wpL_val (i := 8) (v := ?v8) rfl (by kernel_rfl) (by kernel_rfl) (by kernel_rfl) (fun _ _ _ h => h) (by rfl) ?hy8 ?rest8
  case hy8 => (intro x hx; obtain ⟨c0, c1, c2, c3⟩ := HLE.out x hx; go_simp; try with_reducible rfl)
  try simp only [Act.put, List.setIfInBounds_toArray, List.set_cons_zero, List.set_cons_succ]
  refine wpL_call (i := 9) (v := .int .i64 c2) (f := 64) (args := #[.int .i64 ai, .int .i64 bi]) rfl (by kernel_rfl) (by kernel_rfl) (by kernel_rfl) (fun _ _ _ h => h) (by rfl) ?hy9 (fun x _ => (HC2.out x).mono (by rintro e y ⟨rfl, hy⟩; subst hy; exact ⟨rfl, Later.refl _⟩)) ?rest9
  case hy9 => (intro x hx; obtain ⟨c0, c1, c2, c3⟩ := HLE.out x hx; go_simp; try with_reducible rfl)
  try simp only [Act.put, List.setIfInBounds_toArray, List.set_cons_zero, List.set_cons_succ]
  refine wpL_one (i := 10) (by kernel_rfl) rfl (by rfl) ?_
  intro x hx
  refine ⟨.slice (some ⟨x.heap.size, 0, none⟩) 2 2, x.alloc (.cells #[.int .i64 c1, .int .i64 c2] 3), ?_, (Below.refl _ _).alloc (Nat.le_refl _) _, ?_⟩
  · go_simp
  have hwx := wcells_new x #[.int .i64 c1, .int .i64 c2] 3
  have HBX : Shut (Below w.heap.size w (x.alloc (.cells #[.int .i64 c1, .int .i64 c2] 3))) := ⟨((HT.out x hx).below ((Below.refl _ _).alloc (Nat.le_refl _) _)).bel⟩
  have HOR : Shut (∀ y, Later (x.alloc (.cells #[.int .i64 c1, .int .i64 c2] 3)) y → Calls Tryd.prog 63 #[.slice (some ⟨x.heap.size, 0, none⟩) 2 2] y fun e z => e = .returned (.int .i64 R) ∧ Later y z) := ⟨fun y hy => by
    rw [HQ.out]
    refine (or_two x.heap.size c1 c2 2 y ((hwx.grow hy).2 0 _ rfl).1 ((hwx.grow hy).2 1 _ rfl).1).mono ?_
    rintro e z ⟨rfl, hz⟩
    subst hz
    exact ⟨rfl, Later.refl _⟩⟩
  clear hwx
  try simp only [Act.put, List.setIfInBounds_toArray, List.set_cons_zero, List.set_cons_succ]
  refine wpL_call (i := 11) (v := .int .i64 R) (f := 63) (args := #[.slice (some ⟨x.heap.size, 0, none⟩) 2 2]) rfl (by kernel_rfl) (by kernel_rfl) (by kernel_rfl) (fun _ _ _ h => h) (by rfl) ?hyq11 (fun y hy => HOR.out y hy) ?restq11
  case hyq11 => (intro x hx; go_simp; try with_reducible rfl)
  try simp only [Act.put, List.setIfInBounds_toArray, List.set_cons_zero, List.set_cons_succ]
  refine wpL_val (i := 12) (v := ?vq12) rfl (by kernel_rfl) (by kernel_rfl) (by kernel_rfl) (fun _ _ _ h => h) (by rfl) ?hyq12 ?restq12
  case hyq12 => (intro x hx; go_simp; try with_reducible rfl)
  try simp only [Act.put, List.setIfInBounds_toArray, List.set_cons_zero, List.set_cons_succ]
  refine wpL_done (by kernel_rfl) ?_ _
  intro y hy
  have HB := Shut.mk (HBX.out.trans (Below.mono hy HBX.out.size))
  go_wp2_with fail
  go_ret
  exact ⟨rfl, HB.out⟩
theorem implUnitOk (u : UnM) (w : World) : Calls Tryd.prog 42 #[unv u] w fun e w' => e = .returned (.bool (unOne u)) ∧ Below w.heap.size w w' := by
  have HS0 := Shut.mk ((SL.start w).new #[.int .i64 u.group, .int .i64 u.index, .string u.text, .int .i64 u.sum] 32)
  obtain ⟨g, i, t, s⟩ := u
  dsimp only at *
  have HU : Shut (unOne ⟨g, i, t, s⟩ = (decide (1 ≤ g) && decide (g ≤ 100000) && decide (0 ≤ i) && decide (i ≤ 5) && decide ((t.size : Int) ≤ 200) && decide (0 ≤ s) && decide (s ≤ 4294967295))) := ⟨by
    unfold unOne inI
    rw [show decide ((t.size : Int) ≤ 200) = decide (t.size ≤ 200) by simp only [decide_eq_decide]; omega]
    simp only [Bool.and_assoc]⟩
  generalize unOne ⟨g, i, t, s⟩ = R at HU ⊢
  by_cases h0 : 1 ≤ g
  case neg =>
    have HE : Shut (R = false) := ⟨by rw [HU.out]; simp [*]⟩
    go_enter Tryd.func42, Tryd.ntmps42
    go_wp2_with fail
    go_ret
    exact ⟨by rw [HE.out]; rfl, HS0.out.bel⟩
  by_cases h1 : g ≤ 100000
  case neg =>
    have HE : Shut (R = false) := ⟨by rw [HU.out]; simp [*]⟩
    go_enter Tryd.func42, Tryd.ntmps42
    go_wp2_with fail
    go_ret
    exact ⟨by rw [HE.out]; rfl, HS0.out.bel⟩
  by_cases h2 : 0 ≤ i
  case neg =>
    have HE : Shut (R = false) := ⟨by rw [HU.out]; simp [*]⟩
    go_enter Tryd.func42, Tryd.ntmps42
    go_wp2_with fail
    go_ret
    exact ⟨by rw [HE.out]; rfl, HS0.out.bel⟩
  by_cases h3 : i ≤ 5
  case neg =>
    have HE : Shut (R = false) := ⟨by rw [HU.out]; simp [*]⟩
    go_enter Tryd.func42, Tryd.ntmps42
    go_wp2_with fail
    go_ret
    exact ⟨by rw [HE.out]; rfl, HS0.out.bel⟩
  by_cases h4 : (t.size : Int) ≤ 200
  case neg =>
    have HE : Shut (R = false) := ⟨by rw [HU.out]; simp [*]⟩
    go_enter Tryd.func42, Tryd.ntmps42
    go_wp2_with fail
    go_ret
    exact ⟨by rw [HE.out]; rfl, HS0.out.bel⟩
  by_cases h5 : 0 ≤ s
  case neg =>
    have HE : Shut (R = false) := ⟨by rw [HU.out]; simp [*]⟩
    go_enter Tryd.func42, Tryd.ntmps42
    go_wp2_with fail
    go_ret
    exact ⟨by rw [HE.out]; rfl, HS0.out.bel⟩
  by_cases h6 : s ≤ 4294967295
  case neg =>
    have HE : Shut (R = false) := ⟨by rw [HU.out]; simp [*]⟩
    go_enter Tryd.func42, Tryd.ntmps42
    go_wp2_with fail
    go_ret
    exact ⟨by rw [HE.out]; rfl, HS0.out.bel⟩
  have HE : Shut (R = true) := ⟨by rw [HU.out]; simp [*]⟩
  go_enter Tryd.func42, Tryd.ntmps42
  go_wp2_with fail
  go_ret
  exact ⟨by rw [HE.out]; rfl, HS0.out.bel⟩
set_option maxRecDepth 100000 in
set_option maxHeartbeats 4000000 in
theorem implHostOk (H : HM) (a : Option Addr) (cap : Nat) (w : World) (hr : UnRow w a H.us) (hl : H.us.length ≤ 9000000) :
    Calls Tryd.prog 16 #[hov H a cap] w fun e w' => e = .returned (.bool (hostOk H)) ∧ Below w.heap.size w w' := by
  have HS0 := Shut.mk ((SL.start w).new #[.int .i64 H.id, .bool H.up, .slice a H.us.length cap] 26)
  have HR := Shut.mk hr
  clear hr
  obtain ⟨id, up, us⟩ := H
  show Calls Tryd.prog 16 #[.agg #[.int .i64 id, .bool up, .slice a us.length cap]] w fun e w' => e = .returned (.bool (unitsOk us && inI id 1 7)) ∧ Below w.heap.size w w'
  dsimp only at *
  obtain ⟨R, hR⟩ : ∃ R, R = (unitsOk us && inI id 1 7) := ⟨_, rfl⟩
  rw [← hR]
  have HRR := Shut.mk hR
  clear hR
  obtain ⟨n, hn⟩ : ∃ n, n = us.length := ⟨_, rfl⟩
  have HN := Shut.mk hn
  rw [← hn] at HS0 hl ⊢
  clear hn
  have HI : Shut (inI id 1 7 = (decide (1 ≤ id) && decide (id ≤ 7))) := ⟨rfl⟩
  go_enter Tryd.func16, Tryd.ntmps16
  go_upto_region 1 with fail
  refine wp_shade (fun W => SL w W [bxS w.heap.size [.int .i64 id, .bool up, .slice a n cap]]) HS0.out ?_
  intro W0 hW
  have HW := Shut.mk hW
  clear HS0 hW
  have x0 := (HW.out.bx 0 rfl 0 _ rfl).1
  have x2 := (HW.out.bx 0 rfl 2 _ rfl).1
  by_cases h1 : id < 1
  case pos =>
    have HE : Shut (R = false) := ⟨by rw [HRR.out, HI.out]; simp; omega⟩
    go_wp2_with fail
    go_ret
    exact ⟨by rw [HE.out]; rfl, HW.out.bel⟩
  by_cases h2 : 7 < id
  case pos =>
    have HE : Shut (R = false) := ⟨by rw [HRR.out, HI.out]; simp; omega⟩
    go_wp2_with fail
    go_ret
    exact ⟨by rw [HE.out]; rfl, HW.out.bel⟩
  replace HRR : Shut (R = unitsOk us) := ⟨by rw [HRR.out, show inI id 1 7 = true by rw [HI.out]; simp; omega, Bool.and_true]⟩
  clear HI
  go_wp2_with fail
  clear x0 x2
  go_loopw [16] (fun i wr => ∃ (k : Nat), i = .int .i64 k ∧ k ≤ n ∧ Shut (∀ j, j < k → unAt us j = true) ∧ Shut (SL w wr [bxS w.heap.size [.int .i64 id, .bool up, .slice a n cap]])) (fun i _ => n - (intOf i).toNat)
  case atStart => exact ⟨0, rfl, Nat.zero_le _, ⟨fun j hj => by omega⟩, HW⟩
  case round =>
    clear HW
    obtain ⟨k, rfl, hk, HG, HW⟩ := hrel
    by_cases hlt : k < n
    · have hku : k < us.length := by rw [← HN.out]; exact hlt
      obtain ⟨b, off, rfl, lb, hc⟩ := UnRow.at (HR.out.stays HW.out.bel) (by omega)
      obtain ⟨d0, d1, d2, d3⟩ := hc k hku
      obtain ⟨u, hu⟩ : ∃ u, u = us[k] := ⟨_, rfl⟩
      rw [← hu] at d0 d1 d2 d3
      have HU : Shut (us.getD k default = u) := ⟨(getD_un us k hku).trans hu.symm⟩
      have k0 : (0 : Int) ≤ (k : Int) := by omega
      have k1 : (k : Int) < (n : Int) := by omega
      have HC := Shut.mk hc
      have HS := Shut.mk (HW.out.new #[.int .i64 u.group, .int .i64 u.index, .string u.text, .int .i64 u.sum] 32)
      clear hc hu
      go_upto_region 6 with fail
      obtain ⟨bb, hbb⟩ : ∃ q, q = wr.heap.size := ⟨_, rfl⟩
      rw [← hbb] at HS
      rw [← hbb] at lb
      refine wp_shade (fun W => SL w W [bxS bb [.int .i64 u.group, .int .i64 u.index, .string u.text, .int .i64 u.sum], bxS w.heap.size [.int .i64 id, .bool up, .slice (some ⟨b, off, none⟩) n cap]] ∧ Below wr.heap.size wr W) ⟨HS.out, (Below.refl _ _).alloc (Nat.le_refl _) _⟩ ?_
      intro W hW
      rw [← hbb]
      have H := Shut.mk hW.1
      have HBW := Shut.mk hW.2
      have HBB := Shut.mk hbb
      have lw : w.heap.size < W.heap.size := (hW.1.at 1 rfl).1
      have lq : bb < W.heap.size := (hW.1.at 0 rfl).1
      have lbW : b < W.heap.size := Nat.lt_of_lt_of_le (by rw [← hbb]; exact lb) hW.2.size
      have g0 : ∀ X : Grow W, X.val.cell? ⟨bb, 0, none⟩ = some (.int .i64 u.group) := fun X => X.cell (hW.1.bx 0 rfl 0 _ rfl).1 lq
      have g1 : ∀ X : Grow W, X.val.cell? ⟨bb, 1, none⟩ = some (.int .i64 u.index) := fun X => X.cell (hW.1.bx 0 rfl 1 _ rfl).1 lq
      have g2 : ∀ X : Grow W, X.val.cell? ⟨bb, 2, none⟩ = some (.string u.text) := fun X => X.cell (hW.1.bx 0 rfl 2 _ rfl).1 lq
      have g3 : ∀ X : Grow W, X.val.cell? ⟨bb, 3, none⟩ = some (.int .i64 u.sum) := fun X => X.cell (hW.1.bx 0 rfl 3 _ rfl).1 lq
      have gx : ∀ X : Grow W, X.val.cell? ⟨w.heap.size, 2, none⟩ = some (.slice (some ⟨b, off, none⟩) n cap) := fun X => X.cell (hW.1.bx 1 rfl 2 _ rfl).1 lw
      have HGR : Shut (∀ X : Grow W, SL w X.val [bxS w.heap.size [.int .i64 id, .bool up, .slice (some ⟨b, off, none⟩) n cap]]) := ⟨fun X => (SL.tail H.out).below X.bel⟩
      have HNO : Shut (unAt us k = false → unitsOk us = false) := ⟨unitsOk_no hku⟩
      have HONE : Shut (unAt us k = (unOne u && (decide (k = 0) || unLt (us.getD (k - 1) default) u))) := ⟨by unfold unAt; rw [HU.out]⟩
      have HOK := Shut.mk (fun X => calls_grow (w := W) (fun W' (_ : Below W.heap.size W W') => implUnitOk u W') X)
      clear hW hbb d0 d1 d2 d3 HW HS
      cases hq1 : unOne u with
      | false =>
        rw [hq1] at HOK
        refine wp_region_grow (by kernel_rfl) (by kernel_rfl) ?_
        repeat (go_big_quiet_step (first | (go_at_call 42; with_reducible exact HOK.out _)))
        refine wpQuiet_nil ?_
        rintro _ ⟨X, rfl⟩
        go_wp2_with fail
        go_ret
        exact ⟨by rw [HRR.out, HNO.out (by rw [HONE.out]; simp [*])]; rfl, HGR.out X |>.bel⟩
      | true =>
        rw [hq1] at HOK
        by_cases hz : k = 0
        case pos =>
          have hz' : decide ((0 : Int) < (k : Int)) = false := by simp; omega
          refine wp_region_grow (by kernel_rfl) (by kernel_rfl) ?_
          repeat (go_big_quiet_step (first | (go_at_call 42; with_reducible exact HOK.out _)))
          refine wpQuiet_nil ?_
          rintro _ ⟨X, rfl⟩
          go_wp2_with fail
          go_roundw
          case rel => exact ⟨k + 1, by go_num, by omega, ⟨fun j hj => by rcases Nat.lt_succ_iff_lt_or_eq.1 hj with h | h; exact HG.out j h; subst h; rw [HONE.out]; simp [*]⟩, ⟨HGR.out X⟩⟩
          case measure => simp [intOf]; omega
        have hzd : decide (k = 0) = false := by simpa using hz
        have hz' : decide (0 < k) = true := by simp; omega
        have hz3 : 0 < k := by omega
        obtain ⟨e0, e1, e2, e3⟩ := HC.out (k - 1) (by omega)
        obtain ⟨y, hy⟩ : ∃ y, y = us[k - 1]'(by omega) := ⟨_, rfl⟩
        rw [← hy] at e0 e1 e2 e3
        have HY : Shut (us.getD (k - 1) default = y) := ⟨(getD_un us (k - 1) (by omega)).trans hy.symm⟩
        have p0 : ∀ X : Grow W, X.val.cell? ⟨b, off + (k - 1) * 4, none⟩ = some (.int .i64 y.group) := fun X => X.cell ((HBW.out.cell (p := ⟨b, off + (k - 1) * 4, none⟩) (by rw [← HBB.out]; exact lb)).trans e0) lbW
        have p1 : ∀ X : Grow W, X.val.cell? ⟨b, off + (k - 1) * 4 + 1, none⟩ = some (.int .i64 y.index) := fun X => X.cell ((HBW.out.cell (p := ⟨b, off + (k - 1) * 4 + 1, none⟩) (by rw [← HBB.out]; exact lb)).trans e1) lbW
        have p2 : ∀ X : Grow W, X.val.cell? ⟨b, off + (k - 1) * 4 + 2, none⟩ = some (.string y.text) := fun X => X.cell ((HBW.out.cell (p := ⟨b, off + (k - 1) * 4 + 2, none⟩) (by rw [← HBB.out]; exact lb)).trans e2) lbW
        have p3 : ∀ X : Grow W, X.val.cell? ⟨b, off + (k - 1) * 4 + 3, none⟩ = some (.int .i64 y.sum) := fun X => X.cell ((HBW.out.cell (p := ⟨b, off + (k - 1) * 4 + 3, none⟩) (by rw [← HBB.out]; exact lb)).trans e3) lbW
        have hk1 : (k : Int) - 1 = ((k - 1 : Nat) : Int) := by omega
        have hk2 : (0 : Int) ≤ ((k - 1 : Nat) : Int) := by omega
        have hk3 : ((k - 1 : Nat) : Int) < (n : Int) := by omega
        rw [HY.out] at HONE
        have HCM := Shut.mk (fun X => calls_grow (w := W) (fun W' (_ : Below W.heap.size W W') => implCmp y u W') X)
        have HNG := Shut.mk (cmpU_neg y u)
        generalize cmpU y u = cv at HCM HNG
        clear hy e0 e1 e2 e3 hz
        cases hal : unLt y u with
        | false =>
          have hcv : ¬ (cv < 0) := fun h => by have := HNG.out.1 h; rw [hal] at this; cases this
          have hcv2 : decide (0 ≤ cv) = true := by simp; omega
          have hcv3 : (0 : Int) ≤ cv := by omega
          rw [hal] at HONE
          refine wp_region_grow (by kernel_rfl) (by kernel_rfl) ?_
          repeat (go_big_quiet_step (first | (go_at_call 42; with_reducible exact HOK.out _) | (go_at_call 43; with_reducible exact HCM.out _)))
          refine wpQuiet_nil ?_
          rintro _ ⟨X, rfl⟩
          go_wp2_with fail
          go_ret
          exact ⟨by rw [HRR.out, HNO.out (by rw [HONE.out]; simp [*])]; rfl, HGR.out X |>.bel⟩
        | true =>
          have hcv := HNG.out.2 hal
          have hcv2 : decide (0 ≤ cv) = false := by simp; omega
          rw [hal] at HONE
          refine wp_region_grow (by kernel_rfl) (by kernel_rfl) ?_
          repeat (go_big_quiet_step (first | (go_at_call 42; with_reducible exact HOK.out _) | (go_at_call 43; with_reducible exact HCM.out _)))
          refine wpQuiet_nil ?_
          rintro _ ⟨X, rfl⟩
          go_wp2_with fail
          go_roundw
          case rel => exact ⟨k + 1, by go_num, by omega, ⟨fun j hj => by rcases Nat.lt_succ_iff_lt_or_eq.1 hj with h | h; exact HG.out j h; subst h; rw [HONE.out]; simp [*]⟩, ⟨HGR.out X⟩⟩
          case measure => simp [intOf]; omega
    · have e : k = n := by omega
      have HT : Shut (unitsOk us = true) := ⟨unitsOk_yes fun j hj => HG.out j (by have := HN.out; omega)⟩
      subst e
      go_wp2_with fail
      go_ret
      exact ⟨by rw [HRR.out, HT.out]; rfl, HW.out.bel⟩
end Go.Proofs.YtbanfccnmbmcfaaDoor
/- HpB: The program's own copyHost (written by gen/mkhpb.py). -/
namespace Go.Proofs.YtbanfccnmbmcfaaDoor
set_option maxRecDepth 100000
open Go.RowKit BigFrame
attribute [local go_sem ↓] Go.wp_at_zero Go.wp_at_succ

set_option maxRecDepth 100000 in
theorem implClone (s : ByteArray) (w : World) (hs : s.size ≤ 281474976710656) : Calls Tryd.prog 39 #[.string s] w fun e w' => e = .returned (.string s) ∧ Below w.heap.size w w' := by
  have HC := Shut.mk (fun W => Tryd.stringslite_Clone s W hs)
  go_enter Tryd.func39, Tryd.ntmps39
  go_wp2_with fail
  refine (HC.out _).mono ?_
  rintro e w1 ⟨rfl, hb⟩
  go_wp2_with fail
  go_ret
  exact ⟨rfl, hb⟩
set_option maxRecDepth 100000 in
set_option maxHeartbeats 4000000 in
theorem implCopyHost (H : HM) (a : Option Addr) (cap : Nat) (w : World) (hr : UnRow w a H.us) (hl : H.us.length ≤ 3000000) (hz : ∀ u ∈ H.us, u.text.size ≤ 1048576) :
    Calls Tryd.prog 34 #[hov H a cap] w fun e w' => HoPost H w e w' := by
  obtain ⟨i0, hin, hz0, hz1, hz2⟩ := info_parts infoUnit
  have HS0 := Shut.mk (((SL.start w).new #[.int .i64 H.id, .bool H.up, .slice a H.us.length cap] 26).new #[.int .i64 0, .bool false, .slice none 0 0] 26)
  simp only [World.size_alloc] at HS0
  have HR := Shut.mk hr
  have HZ := Shut.mk hz
  clear hr hz
  obtain ⟨id, up, us⟩ := H
  show Calls Tryd.prog 34 #[.agg #[.int .i64 id, .bool up, .slice a us.length cap]] w fun e w' => HoPost ⟨id, up, us⟩ w e w'
  dsimp only at *
  obtain ⟨n, hn⟩ : ∃ n, n = us.length := ⟨_, rfl⟩
  have HN := Shut.mk hn
  rw [← hn] at HS0 hl ⊢
  clear hn
  go_enter Tryd.func34, Tryd.ntmps34
  go_upto_region 1 with fail
  refine wp_shade (fun W => SL w W [bxS (w.heap.size + 1) [.int .i64 0, .bool false, .slice none 0 0], bxS w.heap.size [.int .i64 id, .bool up, .slice a n cap]]) HS0.out ?_
  intro W0 hW
  have HW := Shut.mk hW
  clear HS0 hW
  obtain ⟨W1, hmk, hown, hgr⟩ := run_make_own (P := Tryd.prog) W0 w.heap.size 24 32 i0 _ 4 Tryd.underlying24 hin hz0 hz1 .i64 .i64 n (by rw [hz2]; omega) (by unfold maxLen; omega) HW.out.bel.size
  have HO := Shut.mk (OwS.more (OwS.nil (ty := 32) (sz := 4) HW.out) (Below.refl _ _) hown hgr (.inr rfl))
  have x2 := (HW.out.bx 1 rfl 2 _ rfl).1
  have y2 := (HO.out.sl.bx 1 rfl 2 _ rfl).1
  obtain ⟨g0, hg0⟩ : ∃ q, q = W0.heap.size := ⟨_, rfl⟩
  rw [← hg0] at hmk HO
  clear hown hgr HW hg0
  go_upto_region 3 with fail
  clear x2 y2 hmk
  go_loopw [3, 13] (fun v9 i9 wr => ∃ (k : Nat), i9 = .int .i64 k ∧ k ≤ n ∧ Shut (OwS w wr [bxS (w.heap.size + 1) [.int .i64 0, .bool false, .slice none 0 0], bxS w.heap.size [.int .i64 id, .bool up, .slice a n cap]] 32 4 v9 k (unS (us.take k)))) (fun _ i9 _ => n - (intOf i9).toNat)
  case atStart => exact ⟨0, rfl, Nat.zero_le _, HO⟩
  case round =>
    clear HO
    obtain ⟨k, rfl, hk, HW⟩ := hrel
    obtain ⟨av, cv, rfl⟩ := own_row_slice HW.out.own
    by_cases hlt : k < n
    · have hku : k < us.length := by rw [← HN.out]; exact hlt
      obtain ⟨b, off, u, rfl, hu, lb, hc⟩ := un_at HR.out HW.out.sl.bel hku
      obtain ⟨d0, d1, d2, d3⟩ := hc wr (Below.refl _ _)
      have k0 : (0 : Int) ≤ (k : Int) := by omega
      have k1 : (k : Int) < (n : Int) := by omega
      have HUT : Shut (u.text.size ≤ 1048576) := ⟨by rw [hu]; exact HZ.out _ (List.getElem_mem hku)⟩
      have HNX : Shut (unS (us.take (k + 1)) = unS (us.take k) ++ [.int .i64 u.group, .int .i64 u.index, .string u.text, .int .i64 u.sum]) := ⟨by rw [List.take_succ_eq_append_getElem hku, ← hu, uns_app]; simp [unS, unC]⟩
      have HX := Shut.mk (HW.out.box #[.int .i64 u.group, .int .i64 u.index, .string u.text, .int .i64 u.sum] 32)
      obtain ⟨bb, hbb⟩ : ∃ q, q = wr.heap.size := ⟨_, rfl⟩
      rw [← hbb] at HX
      clear hc hu
      go_upto_region 5 with fail
      refine wp_shade (fun W => OwS w W (bxS bb [.int .i64 u.group, .int .i64 u.index, .string u.text, .int .i64 u.sum] :: [bxS (w.heap.size + 1) [.int .i64 0, .bool false, .slice none 0 0], bxS w.heap.size [.int .i64 id, .bool up, .slice (some ⟨b, off, none⟩) n cap]]) 32 4 (.slice av k cv) k (unS (us.take k))) HX.out ?_
      intro W2 hW
      rw [← hbb]
      have H2 := Shut.mk hW
      clear hW HX hbb d0 d1 d2 d3 HW
      have z2 := (H2.out.sl.bx 0 rfl 2 _ rfl).1
      go_upto_region 6 with (go_at_call 39; refine (implClone u.text _ (by have := HUT.out; omega)).mono ?_; rintro e w3 ⟨rfl, hb⟩; have H3 := Shut.mk (H2.out.below hb); obtain ⟨y2, y2z⟩ := H3.out.sl.bx 0 rfl 2 _ rfl; clear hb z2 H2)
      have H4 := Shut.mk (H3.out.put 0 rfl 2 (.string u.text) (by simp))
      simp only [List.set_cons_zero, List.set_cons_succ] at H4
      refine wp_shade (fun W => OwS w W (bxS bb [.int .i64 u.group, .int .i64 u.index, .string u.text, .int .i64 u.sum] :: [bxS (w.heap.size + 1) [.int .i64 0, .bool false, .slice none 0 0], bxS w.heap.size [.int .i64 id, .bool up, .slice (some ⟨b, off, none⟩) n cap]]) 32 4 (.slice av k cv) k (unS (us.take k))) H4.out ?_
      intro W4 hW
      have H5 := Shut.mk hW
      clear hW H4 H3 y2 y2z
      have z0 := (H5.out.sl.bx 0 rfl 0 _ rfl).1
      have z1 := (H5.out.sl.bx 0 rfl 1 _ rfl).1
      have z2 := (H5.out.sl.bx 0 rfl 2 _ rfl).1
      have z3 := (H5.out.sl.bx 0 rfl 3 _ rfl).1
      have lz : bb < W4.heap.size := (show WCells W4 bb _ from H5.out.sl.at 0 rfl).1
      have hown := H5.out.own
      have hbs := H5.out.sl.bel.size
      go_wp2_with (at_builtin; refine wpList_append_own_at _ rfl _ _ 24 rfl w.heap.size 32 i0 _ 4 40 Tryd.underlying24 hin hz0 hz1 hz2 rfl (by decide) _ _ _ rfl (hown.alloc _) ⟨W4.heap.size, 0, none⟩ 1 1 [.int .i64 u.group, .int .i64 u.index, .string u.text, .int .i64 u.sum] rfl rfl (World.news_of_block (cs := #[.int .i64 u.group, .int .i64 u.index, .string u.text, .int .i64 u.sum]) (t := 32) (fr := (0, 0)) (heap_alloc_new W4 _)) ?c2 ?c3 ?c4 ?c5 ?_)
      case c2 => simp [Value.oneCell']
      case c3 => unfold maxLen; omega
      case c4 => omega
      case c5 => first | omega | (simp; omega)
      intro v9 w9 ho hg _ hat
      have HL9 := Shut.mk (H5.out.more ((Below.refl _ _).alloc (Nat.le_refl _) _) ho hg (by simpa using hat)).tail
      rw [← HNX.out] at HL9
      clear ho hg hat hown hbs z0 z1 z2 z3 lz H5
      go_wp2_with fail
      go_roundw
      case rel => exact ⟨k + 1, by go_num, by omega, HL9⟩
      case measure => simp [intOf]; omega
    · obtain rfl : k = n := by omega
      rw [List.take_of_length_le (by have := HN.out; omega)] at HW
      obtain ⟨x2, x2z⟩ := HW.out.sl.bx 1 rfl 2 _ rfl
      have HP := Shut.mk (HW.out.put 1 rfl 2 (.slice av k cv) (by simp))
      simp only [List.set_cons_zero, List.set_cons_succ] at HP
      go_upto_region 9 with fail
      refine wp_shade (fun W' => OwS w W' [bxS (w.heap.size + 1) [.int .i64 0, .bool false, .slice none 0 0], bxS w.heap.size [.int .i64 id, .bool up, .slice av k cv]] 32 4 (.slice av k cv) k (unS us)) HP.out ?_
      intro W7 h7
      have H7 := Shut.mk h7
      clear h7 HP x2 x2z HW
      have z0 := (H7.out.sl.bx 1 rfl 0 _ rfl).1
      have z1 := (H7.out.sl.bx 1 rfl 1 _ rfl).1
      have z2 := (H7.out.sl.bx 1 rfl 2 _ rfl).1
      obtain ⟨r0, r0z⟩ := H7.out.sl.bx 0 rfl 0 _ rfl
      obtain ⟨r1, r1z⟩ := H7.out.sl.bx 0 rfl 1 _ rfl
      obtain ⟨r2, r2z⟩ := H7.out.sl.bx 0 rfl 2 _ rfl
      go_wp2_with fail
      have HE := Shut.mk ((((H7.out.put 0 rfl 0 (.int .i64 id) (by simp)).put 0 rfl 1 (.bool up) (by simp)).put 0 rfl 2 (.slice av k cv) (by simp)))
      obtain ⟨a8, c8, e8, hf8, hc8⟩ := HE.out.frw
      obtain ⟨rfl, rfl⟩ : av = a8 ∧ cv = c8 := by simpa using e8
      refine bodyPost_ret (v := .agg #[.int .i64 id, .bool up, .slice av k cv]) (by simp [results, Tryd.results34, go_sem, r0, r1, r2]) rfl ⟨av, cv, by rw [HN.out], hf8, by have := HN.out; show us.length ≤ cv; omega, HE.out.sl.bel⟩
end Go.Proofs.YtbanfccnmbmcfaaDoor
/- HpC: The program's own: a unit's key, keys and units that are compared, the place of a unit. -/
namespace Go.Proofs.YtbanfccnmbmcfaaDoor
set_option maxRecDepth 100000
open Go.RowKit BigFrame
attribute [local go_sem ↓] Go.wp_at_zero Go.wp_at_succ

theorem eqgKey (x y : Operand) (a b c d : Int) (W : World) : Sem.run Tryd.prog (eqGuard BinOp.eql 66 x y (.agg #[.int .i64 a, .int .i64 b]) (.agg #[.int .i64 c, .int .i64 d])) W = .ok () W := by kernel_rfl
theorem eqKey (a b c d : Int) (W : World) : Sem.run Tryd.prog (binOp BinOp.eql 66 (.agg #[.int .i64 a, .int .i64 b]) (.agg #[.int .i64 c, .int .i64 d])) W = .ok (.bool (a == c && b == d)) W := by
  rw [run_eql_struct, run_equalIn_agg W 9999 66 _ _ (by kernel_rfl) (by kernel_rfl)]
  simp [Op.eqFields, go_sem]
  by_cases h1 : a = c <;> by_cases h2 : b = d <;> simp [h1, h2]
set_option maxRecDepth 100000 in
theorem implKey (u : UnM) (w : World) : Calls Tryd.prog 61 #[unv u] w fun e w' => e = .returned (.agg #[.int .i64 u.group, .int .i64 u.index]) ∧ Below w.heap.size w w' := by
  have HS0 := Shut.mk (((SL.start w).new #[.int .i64 u.group, .int .i64 u.index, .string u.text, .int .i64 u.sum] 32).new #[.int .i64 0, .int .i64 0] 66)
  simp only [World.size_alloc] at HS0
  go_enter Tryd.func61, Tryd.ntmps61
  go_upto_region 1 with fail
  refine wp_shade (fun W => SL w W [bxS (w.heap.size + 1) [.int .i64 0, .int .i64 0], bxS w.heap.size [.int .i64 u.group, .int .i64 u.index, .string u.text, .int .i64 u.sum]]) HS0.out ?_
  intro W hW
  have H := Shut.mk hW
  clear HS0 hW
  have x0 := (H.out.bx 1 rfl 0 _ rfl).1
  have x1 := (H.out.bx 1 rfl 1 _ rfl).1
  obtain ⟨r0, r0z⟩ := H.out.bx 0 rfl 0 _ rfl
  obtain ⟨r1, r1z⟩ := H.out.bx 0 rfl 1 _ rfl
  go_wp2_with fail
  have HE := Shut.mk ((H.out.put 0 rfl 0 (.int .i64 u.group) (by simp)).put 0 rfl 1 (.int .i64 u.index) (by simp))
  exact bodyPost_ret (v := .agg #[.int .i64 u.group, .int .i64 u.index]) (by simp [results, Tryd.results61, go_sem, r0, r1]) rfl ⟨rfl, HE.out.bel⟩
set_option maxRecDepth 100000 in
set_option maxHeartbeats 1000000 in
theorem testKey (u : UnM) (kb : Nat) (g i : Int) (w : World) (h0 : w.cell? ⟨kb, 0, none⟩ = some (.int .i64 g)) (h1 : w.cell? ⟨kb, 1, none⟩ = some (.int .i64 i)) (hl : kb < w.heap.size) :
    Calls Tryd.prog 60 #[unv u, .pointer (some ⟨kb, 0, none⟩)] w fun e w' => e = .returned (.bool (keyIs g i u)) ∧ Below w.heap.size w w' := by
  have HS0 := Shut.mk ((SL.start w).new #[.int .i64 u.group, .int .i64 u.index, .string u.text, .int .i64 u.sum] 32)
  have HQ : Shut (keyIs g i u = (u.group == g && u.index == i)) := ⟨rfl⟩
  have hek := eqKey u.group u.index g i
  have heg := fun x y => eqgKey x y u.group u.index g i
  have HBW := Shut.mk ((Below.refl w.heap.size w).alloc (Nat.le_refl _) (.cells #[.int .i64 u.group, .int .i64 u.index, .string u.text, .int .i64 u.sum] 32))
  generalize keyIs g i u = R at HQ ⊢
  rw [← HQ.out] at hek
  go_enter Tryd.func60, Tryd.ntmps60
  go_upto_region 1 with fail
  refine wp_shade (fun W => SL w W [bxS w.heap.size [.int .i64 u.group, .int .i64 u.index, .string u.text, .int .i64 u.sum]]) HS0.out ?_
  intro W hW
  have H := Shut.mk hW
  clear HS0 hW
  have lq : w.heap.size < W.heap.size := (H.out.at 0 rfl).1
  have lk : kb < W.heap.size := Nat.lt_of_lt_of_le hl H.out.bel.size
  have g0 : ∀ X : Grow W, X.val.cell? ⟨w.heap.size, 0, none⟩ = some (.int .i64 u.group) := fun X => X.cell (H.out.bx 0 rfl 0 _ rfl).1 lq
  have g1 : ∀ X : Grow W, X.val.cell? ⟨w.heap.size, 1, none⟩ = some (.int .i64 u.index) := fun X => X.cell (H.out.bx 0 rfl 1 _ rfl).1 lq
  have g2 : ∀ X : Grow W, X.val.cell? ⟨w.heap.size, 2, none⟩ = some (.string u.text) := fun X => X.cell (H.out.bx 0 rfl 2 _ rfl).1 lq
  have g3 : ∀ X : Grow W, X.val.cell? ⟨w.heap.size, 3, none⟩ = some (.int .i64 u.sum) := fun X => X.cell (H.out.bx 0 rfl 3 _ rfl).1 lq
  have p0 : ∀ X : Grow W, X.val.cell? ⟨kb, 0, none⟩ = some (.int .i64 g) := fun X => X.cell ((H.out.bel.cell (p := ⟨kb, 0, none⟩) hl).trans h0) lk
  have p1 : ∀ X : Grow W, X.val.cell? ⟨kb, 1, none⟩ = some (.int .i64 i) := fun X => X.cell ((H.out.bel.cell (p := ⟨kb, 1, none⟩) hl).trans h1) lk
  have HK := Shut.mk (fun X => calls_grow (w := W) (fun W' (_ : Below W.heap.size W W') => implKey u W') X)
  have HGR : Shut (∀ X : Grow W, Below w.heap.size w X.val) := ⟨fun X => (H.out.below X.bel).bel⟩
  clear h0 h1
  refine wp_region_grow (by kernel_rfl) (by kernel_rfl) ?_
  repeat (go_big_quiet_step (first | (go_at_call 61; with_reducible exact HK.out _)))
  refine wpQuiet_nil ?_
  rintro _ ⟨X, rfl⟩
  go_wp2_with fail
  go_ret
  exact ⟨rfl, HGR.out X⟩
set_option maxRecDepth 100000 in
set_option maxHeartbeats 1000000 in
theorem indexKey (us : List UnM) (a : Option Addr) (n cap kb : Nat) (g i : Int) (w : World) (hr : UnRow w a us) (hn : n = us.length) (hl : n ≤ 9000000) (h0 : w.cell? ⟨kb, 0, none⟩ = some (.int .i64 g)) (h1 : w.cell? ⟨kb, 1, none⟩ = some (.int .i64 i)) (hk : kb < w.heap.size) :
    Calls Tryd.prog 59 #[.slice a n cap, .func (.func 60) #[] #[.pointer (some ⟨kb, 0, none⟩)]] w fun e w' => e = .returned (.int .i64 (atN us g i)) ∧ Below w.heap.size w w' := by
  obtain ⟨R, hR⟩ : ∃ R, R = atN us g i := ⟨_, rfl⟩
  rw [← hR]
  have HR := Shut.mk hR
  have HT := Shut.mk hr
  have HN := Shut.mk hn
  have HCC : Shut (∀ (W : World) (u : UnM), Below w.heap.size w W → Calls Tryd.prog 60 #[unv u, .pointer (some ⟨kb, 0, none⟩)] W fun e w' => e = .returned (.bool (keyIs g i u)) ∧ Below W.heap.size W w') := ⟨fun W u hb => testKey u kb g i W ((hb.cell (p := ⟨kb, 0, none⟩) hk).trans h0) ((hb.cell (p := ⟨kb, 1, none⟩) hk).trans h1) (Nat.lt_of_lt_of_le hk hb.size)⟩
  clear hR hr hn h0 h1
  go_enter Tryd.func59, Tryd.ntmps59
  go_wp2_with fail
  go_loopw [8] (fun iv wr => ∃ k : Nat, iv = .int .i64 k ∧ k ≤ n ∧ Shut (∀ j (hj : j < us.length), j < k → (us[j].group == g && us[j].index == i) = false) ∧ Shut (Below w.heap.size w wr)) (fun iv _ => n - (intOf iv).toNat)
  case atStart => exact ⟨0, rfl, Nat.zero_le _, ⟨fun _ _ h => absurd h (Nat.not_lt_zero _)⟩, ⟨Below.refl _ _⟩⟩
  case round =>
    obtain ⟨k, rfl, hk, HG, HW⟩ := hrel
    by_cases hlt : k < n
    case pos =>
      have hku : k < us.length := by have := HN.out; omega
      have k0 : (0 : Int) ≤ (k : Int) := by omega
      have k1 : (k : Int) < (n : Int) := by omega
      obtain ⟨b, off, rfl, lb, hc⟩ := UnRow.at (HT.out.stays HW.out) (by omega)
      obtain ⟨c0, c1, c2, c3⟩ := hc k hku
      have HF : Shut ((us[k].group == g && us[k].index == i) = true → R = (k : Int)) := ⟨fun h => HR.out.trans (atN_found hku h HG.out)⟩
      have HNX : Shut ((us[k].group == g && us[k].index == i) = false → ∀ j (hj : j < us.length), j < k + 1 → (us[j].group == g && us[j].index == i) = false) := ⟨fun h j hj hjk => by
        rcases Nat.lt_succ_iff_lt_or_eq.1 hjk with e | e
        · exact HG.out j hj e
        · subst e; exact h⟩
      have HCK := Shut.mk (HCC.out wr us[k] HW.out)
      unfold keyIs at HCK
      obtain ⟨u, hu⟩ : ∃ u, u = us[k] := ⟨_, rfl⟩
      rw [← hu] at c0 c1 c2 c3 HF HNX HCK
      obtain ⟨q, hq⟩ : ∃ q, q = (u.group == g && u.index == i) := ⟨_, rfl⟩
      rw [← hq] at HF HNX HCK
      clear hc hu hq
      cases q with
      | true =>
        have HE := Shut.mk (HF.out rfl)
        go_wp2_with (go_at_call 60; refine HCK.out.mono ?_; rintro e w1 ⟨rfl, hb1⟩; have HB1 := Shut.mk (HW.out.trans (hb1.mono HW.out.size)); clear hb1)
        go_ret
        exact ⟨by rw [HE.out]; rfl, HB1.out⟩
      | false =>
        have HE := Shut.mk (HNX.out rfl)
        go_wp2_with (go_at_call 60; refine HCK.out.mono ?_; rintro e w1 ⟨rfl, hb1⟩; have HB1 := Shut.mk (HW.out.trans (hb1.mono HW.out.size)); clear hb1)
        go_roundw
        case rel => exact ⟨k + 1, by go_num, by omega, HE, HB1⟩
        case measure => simp [intOf]; omega
    case neg =>
      have k1 : ¬ (k : Int) < (n : Int) := by omega
      have HE : Shut (R = -1) := ⟨HR.out.trans (atN_none fun j hj => HG.out j hj (by have := HN.out; omega))⟩
      go_wp2_with fail
      go_ret
      exact ⟨by rw [HE.out]; rfl, HW.out⟩
set_option maxRecDepth 100000 in
set_option maxHeartbeats 1000000 in
theorem implAt (H : HM) (a : Option Addr) (cap : Nat) (g i : Int) (w : World) (hr : UnRow w a H.us) (hl : H.us.length ≤ 9000000) :
    Calls Tryd.prog 37 #[hov H a cap, .agg #[.int .i64 g, .int .i64 i]] w fun e w' => e = .returned (.int .i64 (atN H.us g i)) ∧ Below w.heap.size w w' := by
  have HS0 := Shut.mk (((SL.start w).new #[.int .i64 H.id, .bool H.up, .slice a H.us.length cap] 26).new #[.int .i64 g, .int .i64 i] 66)
  simp only [World.size_alloc] at HS0
  have HR := Shut.mk hr
  clear hr
  obtain ⟨id, up, us⟩ := H
  dsimp only [hov] at *
  have HIX : Shut (∀ W, SL w W [bxS (w.heap.size + 1) [.int .i64 g, .int .i64 i], bxS w.heap.size [.int .i64 id, .bool up, .slice a us.length cap]] → Calls Tryd.prog 59 #[.slice a us.length cap, .func (.func 60) #[] #[.pointer (some ⟨w.heap.size + 1, 0, none⟩)]] W fun e w' => e = .returned (.int .i64 (atN us g i)) ∧ Below W.heap.size W w') := ⟨fun W h => indexKey us a us.length cap (w.heap.size + 1) g i W (HR.out.stays h.bel) rfl hl (h.bx 0 rfl 0 _ rfl).1 (h.bx 0 rfl 1 _ rfl).1 (h.at 0 rfl).1⟩
  generalize atN us g i = R at HIX ⊢
  generalize us.length = n at HS0 HIX ⊢
  go_enter Tryd.func37, Tryd.ntmps37
  go_upto_region 1 with fail
  refine wp_shade (fun W => SL w W [bxS (w.heap.size + 1) [.int .i64 g, .int .i64 i], bxS w.heap.size [.int .i64 id, .bool up, .slice a n cap]]) HS0.out ?_
  intro W hW
  have H := Shut.mk hW
  clear HS0 hW
  have x2 := (H.out.bx 1 rfl 2 _ rfl).1
  go_wp2_with (go_at_call 59; refine (HIX.out _ H.out).mono ?_; rintro e w1 ⟨rfl, hb1⟩; have HB1 := Shut.mk (H.out.below hb1).bel; clear hb1)
  go_ret
  exact ⟨rfl, HB1.out⟩
end Go.Proofs.YtbanfccnmbmcfaaDoor
/- HpD: The library's slices.Delete of one unit in a row of one's own; the program's own DropUnit (written by gen/mkhpd.py). -/
namespace Go.Proofs.YtbanfccnmbmcfaaDoor
set_option maxRecDepth 100000
open Go.RowKit BigFrame
attribute [local go_sem ↓] Go.wp_at_zero Go.wp_at_succ

abbrev zeroU : Array Value := #[.int .i64 0, .int .i64 0, .string ⟨#[]⟩, .int .i64 0]
theorem zeroU_one (m : Nat) : ∀ v ∈ (Builtin.zeroCells zeroU m).toList, v.oneCell' = true := by
  intro v hv
  unfold Builtin.zeroCells at hv
  simp only [Array.toList_map, List.mem_map] at hv
  obtain ⟨i, -, rfl⟩ := hv
  have : i % 4 < 4 := Nat.mod_lt _ (by decide)
  generalize i % 4 = q at this
  show (zeroU[q]!).oneCell' = true
  match q, this with
  | 0, _ => rfl
  | 1, _ => rfl
  | 2, _ => rfl
  | 3, _ => rfl
theorem zeroU_len (m : Nat) : (Builtin.zeroCells zeroU m).toList.length = m * 4 := by
  unfold Builtin.zeroCells
  simp
theorem clear_unit (g o c : Nat) (W : World) (hc : ∀ j, j < 4 → (W.cell? ⟨g, o + j, none⟩).isSome = true ∧ W.frozen? ⟨g, o + j, none⟩ = false) : Sem.run Tryd.prog (Builtin.clear_ #[24] 0 #[.slice (some ⟨g, o, none⟩) 1 c]) W = .ok (.tuple #[]) (W.setCells g o (Builtin.zeroCells zeroU 1).toList) := by
  have hz : ∀ w, Sem.run Tryd.prog (zeroValue 32) w = .ok (.agg zeroU) w := fun w => by kernel_rfl
  have hs := run_storeCells_cells (P := Tryd.prog) g o (Builtin.zeroCells zeroU 1).toList 0 W (fun j hj => by rw [Nat.add_zero]; exact (hc j (by rw [zeroU_len] at hj; omega)).1) (fun j hj => by rw [Nat.add_zero]; exact (hc j (by rw [zeroU_len] at hj; omega)).2) (zeroU_one 1)
  unfold Builtin.clear_
  simp [go_sem, hz, Value.cells, hs]
set_option maxRecDepth 100000 in
set_option maxHeartbeats 4000000 in
theorem deleteUnit (us : List UnM) (gc n cc k lo hi : Nat) (W : World) (hF : FRw W (some ⟨gc, 0, none⟩) (unS us) lo hi) (hn : n = us.length) (hk : k < n) (hcn : n ≤ cc) :
    Calls Tryd.prog 41 #[.slice (some ⟨gc, 0, none⟩) n cc, .int .i64 k, .int .i64 ((k : Int) + 1)] W fun e w' => e = .returned (.slice (some ⟨gc, 0, none⟩) (n - 1) cc) ∧ FRw w' (some ⟨gc, 0, none⟩) (unS (us.take k ++ us.drop (k + 1))) lo hi ∧ Turned W w' lo hi := by
  obtain ⟨i0, hin, hz0, hz1, hz2⟩ := info_parts infoUnit
  obtain ⟨hlo, hhi, hwc0⟩ : lo ≤ gc ∧ gc < hi ∧ WCells W gc (unS us) := by
    rcases hF with ⟨e, _⟩ | ⟨q, e, h1, h2, h3⟩
    · cases e
    · cases e; exact ⟨h1, h2, h3⟩
  have HWC := Shut.mk hwc0
  have HN := Shut.mk hn
  have HB := Shut.mk (And.intro hlo hhi)
  clear hF hwc0 hlo hhi hn
  have k0 : (0 : Int) ≤ (k : Int) := by omega
  have k1 : (k : Int) < (n : Int) := by omega
  have k3 : (k : Int) + 1 ≤ (n : Int) := by omega
  have k4 : (k : Int) ≤ (cc : Int) := by omega
  have k5 : (0 : Int) ≤ (k : Int) + 1 := by omega
  have k6 : (n : Int) ≤ (cc : Int) := by omega
  have k7 : ((k : Int) == (k : Int) + 1) = false := by simp; omega
  have k8 : (k : Int) ≤ (k : Int) + 1 := by omega
  have k9 : ¬ (k : Int) = (k : Int) + 1 := by omega
  go_enter Tryd.func41, Tryd.ntmps41
  go_upto_region 5 with fail
  refine wp_region_set (fun j => decide (6 ≤ j)) (by kernel_rfl) ?_
  refine wpD_val (i := 0) (v := ?v0) rfl (by kernel_rfl) (by kernel_rfl) (by kernel_rfl) (by kernel_rfl) (fun _ _ _ h => h) (by rfl) ?hy0 ?rest0
  case hy0 => (intro x hx; go_simp; try with_reducible rfl)
  try simp only [Act.put, List.setIfInBounds_toArray, List.set_cons_zero, List.set_cons_succ]
  refine wpD_val (i := 1) (v := ?v1) rfl (by kernel_rfl) (by kernel_rfl) (by kernel_rfl) (by kernel_rfl) (fun _ _ _ h => h) (by rfl) ?hy1 ?rest1
  case hy1 => (intro x hx; go_simp; try with_reducible rfl)
  try simp only [Act.put, List.setIfInBounds_toArray, List.set_cons_zero, List.set_cons_succ]
  refine wpD_val (i := 2) (v := ?v2) rfl (by kernel_rfl) (by kernel_rfl) (by kernel_rfl) (by kernel_rfl) (fun _ _ _ h => h) (by rfl) ?hy2 ?rest2
  case hy2 => (intro x hx; go_simp; try with_reducible rfl)
  try simp only [Act.put, List.setIfInBounds_toArray, List.set_cons_zero, List.set_cons_succ]
  refine wpD_val (i := 3) (v := ?v3) rfl (by kernel_rfl) (by kernel_rfl) (by kernel_rfl) (by kernel_rfl) (fun _ _ _ h => h) (by rfl) ?hy3 ?rest3
  case hy3 => (intro x hx; go_simp; try with_reducible rfl)
  try simp only [Act.put, List.setIfInBounds_toArray, List.set_cons_zero, List.set_cons_succ]
  refine wpD_val (i := 4) (v := ?v4) rfl (by kernel_rfl) (by kernel_rfl) (by kernel_rfl) (by kernel_rfl) (fun _ _ _ h => h) (by rfl) ?hy4 ?rest4
  case hy4 => (intro x hx; go_simp; try with_reducible rfl)
  try simp only [Act.put, List.setIfInBounds_toArray, List.set_cons_zero, List.set_cons_succ]
  obtain ⟨sa, hsa⟩ : ∃ ad : Addr, (if cc = k + 1 then some (⟨gc, 0, none⟩ : Addr) else some ⟨gc, (k + 1) * 4, none⟩) = some ad := by split <;> exact ⟨_, rfl⟩
  have HSA := Shut.mk hsa
  clear hsa
  refine wpD_val (i := 5) (v := .slice (some sa) (n - (k + 1)) (cc - (k + 1))) rfl (by kernel_rfl) (by kernel_rfl) (by kernel_rfl) (by kernel_rfl) (fun _ _ _ h => h) (by rfl) ?hy5 ?rest5
  case hy5 => (intro x hx; go_simp; first | done | (rw [HSA.out]))
  try simp only [Act.put, List.setIfInBounds_toArray, List.set_cons_zero, List.set_cons_succ]
  refine wpD_tail (by kernel_rfl) ?_
  intro x5 hx5
  have hwc : WCells x5 gc (unS us) := (WCells.grow HWC.out (Below.drew (Below.refl _ _))).grow hx5
  have HT5 : Shut (Turned W x5 lo hi) := ⟨Turned.of_below (Below.trans (Below.drew (Below.refl W.heap.size W)) (show Below W.heap.size W.drew x5 from hx5)) lo hi⟩
  have hsrc : Src Tryd.prog i0.size 24 (.slice (some sa) (n - (k + 1)) (cc - (k + 1))) (n - (k + 1)) (unS (us.drop (k + 1))) x5 := by
    refine Src.ofSlice x5 Tryd.underlying24 sa _ _ _ ?_ ?_ (uns_one _)
    · rw [unS_len, hz1, List.length_drop, HN.out]
    · intro j u hj
      have hjl := (List.getElem?_eq_some_iff.1 hj).1
      rw [unS_len, List.length_drop] at hjl
      have e1 : unS us = unS (us.take (k + 1)) ++ unS (us.drop (k + 1)) := by rw [← uns_app, List.take_append_drop]
      have l1 : (unS (us.take (k + 1))).length = (k + 1) * 4 := by rw [unS_len, List.length_take, Nat.min_eq_left (by have := HN.out; omega)]
      have e2 : (unS us)[(k + 1) * 4 + j]? = some u := by rw [e1, List.getElem?_append_right (by omega), l1, show (k + 1) * 4 + j - (k + 1) * 4 = j by omega]; exact hj
      have hne : ¬ cc = k + 1 := by have := HN.out; omega
      have es : sa = ⟨gc, (k + 1) * 4, none⟩ := by have q := HSA.out; rw [if_neg hne] at q; exact (Option.some.inj q).symm
      rw [es, show (⟨gc, (k + 1) * 4, none⟩ : Addr).add j = ⟨gc, (k + 1) * 4 + j, none⟩ by cases j <;> simp [Addr.add]]
      exact (hwc.2 _ _ e2).1
  have hlen : (unS us).length = us.length * 4 := unS_len us
  have hap : ∀ ty, (Builtin.append_ #[24, 24] ty #[.slice (some ⟨gc, 0, none⟩) k cc, .slice (some sa) (n - (k + 1)) (cc - (k + 1))]).run Tryd.prog x5 = .ok (.slice (some ⟨gc, 0, none⟩) (k + (n - (k + 1))) cc) (x5.setCells gc (0 + k * 4) (unS (us.drop (k + 1)))) := fun ty => by
    have q := run_append_room_src (P := Tryd.prog) (w := x5) 24 24 ty 32 i0 Tryd.underlying24 hin gc 0 k cc (.slice (some sa) (n - (k + 1)) (cc - (k + 1))) (n - (k + 1)) (unS (us.drop (k + 1))) hsrc (by omega) (fun j hj => ?_) (fun j hj => ?_)
    · rw [hz1] at q
      exact q
    · rw [unS_len, List.length_drop] at hj
      rw [hz1, (hwc.2 (0 + k * 4 + j) _ (List.getElem?_eq_getElem (by have := HN.out; omega))).1]
      rfl
    · rw [unS_len, List.length_drop] at hj
      rw [hz1]
      exact (hwc.2 (0 + k * 4 + j) _ (List.getElem?_eq_getElem (by have := HN.out; omega))).2
  have HY : Shut (∃ R, WCells (x5.setCells gc (0 + k * 4) (unS (us.drop (k + 1)))) gc (unS (us.take k ++ us.drop (k + 1)) ++ R) ∧ R.length = 4) := ⟨by
    obtain ⟨R, hR⟩ := uns_shift us k (by have := HN.out; omega)
    have q := hwc.setW (k * 4) (unS (us.drop (k + 1))) (by rw [unS_len, unS_len, List.length_drop]; have := HN.out; omega)
    have q2 := congrArg List.length hR
    rw [hR] at q
    rw [setCells_setW, Nat.zero_add]
    refine ⟨R, q, ?_⟩
    rw [setL_len, List.length_append, unS_len, unS_len, List.length_append, List.length_take, List.length_drop] at q2
    have := HN.out
    omega⟩
  have HT6 : Shut (Turned W (x5.setCells gc (0 + k * 4) (unS (us.drop (k + 1)))) lo hi) := ⟨HT5.out.trans (by rw [setCells_setW]; exact turned_setW x5 gc _ _ HB.out.1 HB.out.2)⟩
  obtain ⟨y5, hy5⟩ : ∃ q, q = x5.setCells gc (0 + k * 4) (unS (us.drop (k + 1))) := ⟨_, rfl⟩
  rw [← hy5] at hap HY HT6
  obtain ⟨nn, hnn⟩ : ∃ q, q = k + (n - (k + 1)) := ⟨_, rfl⟩
  rw [← hnn] at hap
  have HNN : Shut (nn = n - 1 ∧ nn = (us.take k ++ us.drop (k + 1)).length) := ⟨⟨by omega, by rw [hnn, List.length_append, List.length_take, List.length_drop, ← HN.out, Nat.min_eq_left (by omega)]⟩⟩
  have n1 : (nn : Int) ≤ (n : Int) := by omega
  have n2 : n - nn = 1 := by omega
  have n3 : ¬ cc = nn := by omega
  have n4 : (0 : Int) ≤ (nn : Int) := by omega
  clear hy5 hnn hwc hsrc hlen hx5 HT5
  refine wpA_here (v := .slice (some ⟨gc, 0, none⟩) nn cc) (y := y5) (i := 6) (by kernel_rfl) rfl (by rfl) (run_append_op rfl rfl rfl hap) ?_
  try simp only [Act.put, List.setIfInBounds_toArray, List.set_cons_zero, List.set_cons_succ]
  refine wpA_val (i := 7) (v := .slice (some ⟨gc, 0, none⟩) nn cc) rfl (by kernel_rfl) (by kernel_rfl) (by kernel_rfl) (fun _ _ _ h => h) (by rfl) (fun x => by go_simp) ?_
  simp only [Act.put, List.setIfInBounds_toArray, List.set_cons_zero]
  refine wpA_done (by kernel_rfl) ?_ _
  obtain ⟨R, hR⟩ : ∃ R, WCells y5 gc (unS (us.take k ++ us.drop (k + 1)) ++ R) ∧ R.length = 4 := HY.out
  have HRR := Shut.mk hR
  have hcl := clear_unit gc (nn * 4) (cc - nn) y5 (fun j hj => by
    have hl : (unS (us.take k ++ us.drop (k + 1))).length = nn * 4 := by rw [unS_len, ← HNN.out.2]
    have q := HRR.out.1.2 (nn * 4 + j) _ (List.getElem?_eq_getElem (by rw [List.length_append, hl]; have := HRR.out.2; omega))
    exact ⟨by rw [q.1]; rfl, q.2⟩)
  have HF : Shut (FRw (y5.setCells gc (nn * 4) (Builtin.zeroCells zeroU 1).toList) (some ⟨gc, 0, none⟩) (unS (us.take k ++ us.drop (k + 1))) lo hi ∧ Turned W (y5.setCells gc (nn * 4) (Builtin.zeroCells zeroU 1).toList) lo hi) := ⟨by
    have hl : (unS (us.take k ++ us.drop (k + 1))).length = nn * 4 := by rw [unS_len, ← HNN.out.2]
    rw [setCells_setW]
    have q := HRR.out.1.setW (nn * 4) (Builtin.zeroCells zeroU 1).toList (by rw [List.length_append, hl, zeroU_len]; have := HRR.out.2; omega)
    rw [show nn * 4 = (unS (us.take k ++ us.drop (k + 1))).length + 0 by omega, setL_app] at q
    rw [show (unS (us.take k ++ us.drop (k + 1))).length + 0 = nn * 4 by omega] at q
    exact ⟨.inr ⟨gc, rfl, HB.out.1, HB.out.2, q.pre⟩, HT6.out.trans (turned_setW y5 gc _ _ HB.out.1 HB.out.2)⟩⟩
  clear hap hR
  generalize (Builtin.zeroCells zeroU 1).toList = Z at hcl HF
  go_wp2_with fail
  go_ret
  exact ⟨by rw [← HNN.out.1]; rfl, HF.out⟩
theorem frw_some {w : World} {a : Option Addr} {us : List UnM} {lo hi : Nat} (h : FRw w a (unS us) lo hi) (hp : 0 < us.length) : ∃ gc, a = some ⟨gc, 0, none⟩ := by
  rcases h with ⟨_, e⟩ | ⟨q, e, _⟩
  · have := congrArg List.length e
    rw [unS_len] at this
    simp at this
    omega
  · exact ⟨q, e⟩
set_option maxRecDepth 100000 in
set_option maxHeartbeats 4000000 in
theorem implDropUnit (H : HM) (a : Option Addr) (cap : Nat) (g i : Int) (w : World) (hr : UnRow w a H.us) (hl : H.us.length ≤ 1048576) (hz : unSum H.us ≤ 1048576) :
    Calls Tryd.prog 15 #[hov H a cap, .int .i64 g, .int .i64 i] w fun e w' => HbPost (dropU H g i) w e w' := by
  have HCP := Shut.mk (fun (W : World) (hb : Below w.heap.size w W) => implCopyHost H a cap W (hr.stays hb) (by omega) (fun u hu => by have := unSum_mem hu; omega))
  unfold HoPost at HCP
  clear hr hz
  obtain ⟨id, up, us⟩ := H
  obtain ⟨RR, hRR⟩ : ∃ q, q = dropU ⟨id, up, us⟩ g i := ⟨_, rfl⟩
  rw [← hRR]
  have HQ := Shut.mk hRR
  unfold dropU at HQ
  show Calls Tryd.prog 15 #[.agg #[.int .i64 id, .bool up, .slice a us.length cap], .int .i64 g, .int .i64 i] w fun e w' => HbPost RR w e w'
  dsimp only [hov] at *
  have HA : Shut (∀ (W : World) (b : Option Addr) (c : Nat), UnRow W b us → Calls Tryd.prog 37 #[.agg #[.int .i64 id, .bool up, .slice b us.length c], .agg #[.int .i64 g, .int .i64 i]] W fun e w' => e = .returned (.int .i64 (atN us g i)) ∧ Below W.heap.size W w') := ⟨fun W b c h => implAt ⟨id, up, us⟩ b c g i W h (by show us.length ≤ 9000000; omega)⟩
  obtain ⟨n, hn⟩ : ∃ n, n = us.length := ⟨_, rfl⟩
  have HN := Shut.mk hn
  rw [← hn] at HCP HA hl ⊢
  obtain ⟨ki, hki⟩ : ∃ q, q = atN us g i := ⟨_, rfl⟩
  rw [← hki] at HA
  have HK := Shut.mk hki
  clear hki hRR hn
  have HS0 := Shut.mk (((SL.start w).new #[.int .i64 id, .bool up, .slice a n cap] 26).new #[.int .i64 0, .bool false, .slice none 0 0] 26)
  simp only [World.size_alloc] at HS0
  go_enter Tryd.func15, Tryd.ntmps15
  go_upto_region 1 with fail
  refine wp_shade (fun W => SL w W [bxS (w.heap.size + 1) [.int .i64 0, .bool false, .slice none 0 0], bxS w.heap.size [.int .i64 id, .bool up, .slice a n cap]]) HS0.out ?_
  intro W0 hW
  have H := Shut.mk hW
  clear HS0 hW
  have x0 := (H.out.bx 1 rfl 0 _ rfl).1
  have x1 := (H.out.bx 1 rfl 1 _ rfl).1
  have x2 := (H.out.bx 1 rfl 2 _ rfl).1
  go_upto_region 2 with (go_at_call 34; refine (HCP.out _ H.out.bel).mono ?_; rintro e w1 ⟨ac, cc, rfl, hF, hcc, hb⟩; have HS1 := Shut.mk (H.out.add (s := rwS ac (unS us) W0.heap.size w1.heap.size) hb hF (rwS.loc _ _ _ _) (Nat.le_refl _) (Nat.le_refl _)); clear hF hb H x0 x1 x2)
  generalize W0.heap.size = lc at HS1
  obtain ⟨hc9, hhc⟩ : ∃ q, q = w1.heap.size := ⟨_, rfl⟩
  rw [← hhc] at HS1
  clear hhc
  obtain ⟨b6, hb6⟩ : ∃ q, q = w1.heap.size := ⟨_, rfl⟩
  refine wp_shade (fun W => SL w W [bxS b6 [.int .i64 id, .bool up, .slice ac n cc], rwS ac (unS us) lc hc9, bxS (w.heap.size + 1) [.int .i64 0, .bool false, .slice none 0 0], bxS w.heap.size [.int .i64 id, .bool up, .slice a n cap]]) (by rw [hb6]; exact HS1.out.new _ _) ?_
  intro W2 hW
  have H := Shut.mk hW
  rw [← hb6]
  clear hW hb6 HS1
  have x0 := (H.out.bx 0 rfl 0 _ rfl).1
  have x1 := (H.out.bx 0 rfl 1 _ rfl).1
  have x2 := (H.out.bx 0 rfl 2 _ rfl).1
  go_upto_region 3 with (go_at_call 37; refine (HA.out _ _ _ (show FRw W2 ac (unS us) lc hc9 from H.out.at 1 rfl).crow).mono ?_; rintro e w3 ⟨rfl, hb⟩; replace H := Shut.mk (H.out.below hb); clear hb x0 x1 x2)
  by_cases hf : unIdx us g i < us.length
  case neg =>
    have hki : ki = -1 := by rw [HK.out, idx_no hf]
    have HE : Shut (RR = (⟨id, up, us⟩, false)) := ⟨by rw [HQ.out]; simp [hf]⟩
    subst hki
    clear hf
    have z0 := (H.out.bx 0 rfl 0 _ rfl).1
    have z1 := (H.out.bx 0 rfl 1 _ rfl).1
    have z2 := (H.out.bx 0 rfl 2 _ rfl).1
    obtain ⟨r0, r0z⟩ := H.out.bx 2 rfl 0 _ rfl
    obtain ⟨r1, r1z⟩ := H.out.bx 2 rfl 1 _ rfl
    obtain ⟨r2, r2z⟩ := H.out.bx 2 rfl 2 _ rfl
    go_wp2_with fail
    have HE3 := Shut.mk ((((H.out.put 2 rfl 0 (.int .i64 id) (by simp)).put 2 rfl 1 (.bool up) (by simp)).put 2 rfl 2 (.slice ac n cc) (by simp)))
    refine bodyPost_ret (v := .tuple #[.agg #[.int .i64 id, .bool up, .slice ac n cc], .bool false]) (by simp [results, Tryd.results15, go_sem, r0, r1, r2]) rfl ?_
    rw [HE.out]
    have hs := HE3.out.is _ (List.mem_of_getElem? (show _[1]? = some (rwS ac (unS us) lc hc9) from rfl))
    exact ⟨_, cc, by rw [HN.out], frw_wide (show FRw _ _ (unS us) lc hc9 from hs.1) hs.2.2.1 hs.2.2.2, by have := HN.out; show us.length ≤ cc; omega, HE3.out.bel⟩
  obtain ⟨k, hk⟩ : ∃ k, k = unIdx us g i := ⟨_, rfl⟩
  have hki : ki = (k : Int) := by rw [HK.out, idx_lt hf, hk]
  rw [← hk] at hf
  have HE : Shut (RR = (⟨id, up, us.take k ++ us.drop (k + 1)⟩, true)) := ⟨by rw [HQ.out, ← hk, if_pos hf]⟩
  subst hki
  have k0 : (0 : Int) ≤ (k : Int) := by omega
  have k1 : (k : Int) < (n : Int) := by have := HN.out; omega
  have k2 : ¬ ((k : Int) < 0) := by omega
  clear hk HQ
  obtain ⟨gc, rfl⟩ := frw_some (show FRw w3 ac (unS us) lc hc9 from H.out.at 1 rfl) (by omega)
  have x2 := (H.out.bx 0 rfl 2 _ rfl).1
  have hkn : k < n := by omega
  have hcn : n ≤ cc := hcc
  have HDL := Shut.mk (deleteUnit us gc n cc k lc hc9 w3 (show FRw w3 (some ⟨gc, 0, none⟩) (unS us) lc hc9 from H.out.at 1 rfl) HN.out hkn hcn)
  have hw1 : (k : Int) + 1 ≤ 9223372036854775807 := by omega
  have HT : Shut (∀ w4, FRw w4 (some ⟨gc, 0, none⟩) (unS (us.take k ++ us.drop (k + 1))) lc hc9 → Turned w3 w4 lc hc9 → SL w w4 [bxS b6 [.int .i64 id, .bool up, .slice (some ⟨gc, 0, none⟩) n cc], rwS (some ⟨gc, 0, none⟩) (unS (us.take k ++ us.drop (k + 1))) lc hc9, bxS (w.heap.size + 1) [.int .i64 0, .bool false, .slice none 0 0], bxS w.heap.size [.int .i64 id, .bool up, .slice a n cap]]) := ⟨fun w4 hF hT => H.out.turn 1 rfl hT hF (rwS.loc _ _ _ _)⟩
  clear hf
  go_upto_region 6 with (go_at_call 41; refine HDL.out.mono ?_; rintro e w4 ⟨rfl, hF4, hT4⟩; have H4 := Shut.mk (HT.out w4 hF4 hT4); obtain ⟨y2, y2z⟩ := H4.out.bx 0 rfl 2 _ rfl; clear hF4 hT4 HDL HT H x2)
  obtain ⟨nn, hnn⟩ : ∃ q, q = n - 1 := ⟨_, rfl⟩
  have H7 := Shut.mk (H4.out.put 0 rfl 2 (.slice (some ⟨gc, 0, none⟩) (n - 1) cc) (by simp))
  simp only [List.set_cons_zero, List.set_cons_succ] at H7
  rw [← hnn] at H7 ⊢
  have HNN : Shut (nn = (us.take k ++ us.drop (k + 1)).length) := ⟨by rw [hnn, List.length_append, List.length_take, List.length_drop, ← HN.out]; omega⟩
  clear H4 y2 y2z hnn
  refine wp_shade (fun W => SL w W [bxS b6 [.int .i64 id, .bool up, .slice (some ⟨gc, 0, none⟩) nn cc], rwS (some ⟨gc, 0, none⟩) (unS (us.take k ++ us.drop (k + 1))) lc hc9, bxS (w.heap.size + 1) [.int .i64 0, .bool false, .slice none 0 0], bxS w.heap.size [.int .i64 id, .bool up, .slice a n cap]]) H7.out ?_
  intro W8 hW
  have H := Shut.mk hW
  clear hW H7
  have z0 := (H.out.bx 0 rfl 0 _ rfl).1
  have z1 := (H.out.bx 0 rfl 1 _ rfl).1
  have z2 := (H.out.bx 0 rfl 2 _ rfl).1
  obtain ⟨r0, r0z⟩ := H.out.bx 2 rfl 0 _ rfl
  obtain ⟨r1, r1z⟩ := H.out.bx 2 rfl 1 _ rfl
  obtain ⟨r2, r2z⟩ := H.out.bx 2 rfl 2 _ rfl
  go_wp2_with fail
  have HE3 := Shut.mk ((((H.out.put 2 rfl 0 (.int .i64 id) (by simp)).put 2 rfl 1 (.bool up) (by simp)).put 2 rfl 2 (.slice (some ⟨gc, 0, none⟩) nn cc) (by simp)))
  refine bodyPost_ret (v := .tuple #[.agg #[.int .i64 id, .bool up, .slice (some ⟨gc, 0, none⟩) nn cc], .bool true]) (by simp [results, Tryd.results15, go_sem, r0, r1, r2]) rfl ?_
  rw [HE.out]
  have hs := HE3.out.is _ (List.mem_of_getElem? (show _[1]? = some (rwS (some ⟨gc, 0, none⟩) (unS (us.take k ++ us.drop (k + 1))) lc hc9) from rfl))
  exact ⟨_, cc, by show _ = Ending.returned (.tuple #[.agg #[.int .i64 id, .bool up, .slice _ (us.take k ++ us.drop (k + 1)).length cc], .bool true]); rw [← HNN.out], frw_wide (show FRw _ _ (unS (us.take k ++ us.drop (k + 1))) lc hc9 from hs.1) hs.2.2.1 hs.2.2.2, by have h1 := HNN.out; have h2 := HN.out; show (us.take k ++ us.drop (k + 1)).length ≤ cc; rw [List.length_append, List.length_take, List.length_drop]; omega, HE3.out.bel⟩
end Go.Proofs.YtbanfccnmbmcfaaDoor
/- HpE: The program's own: SumText, a unit summed anew, one that is sound, one that is spoilt. -/
namespace Go.Proofs.YtbanfccnmbmcfaaDoor
set_option maxRecDepth 100000
open Go.RowKit BigFrame
attribute [local go_sem ↓] Go.wp_at_zero Go.wp_at_succ

theorem implSum (t : ByteArray) (w : World) (htab : SumTab w) (hs : t.size ≤ 1048576) : Calls Tryd.prog 18 #[.string t] w fun e w' => e = .returned (.int .i64 (sumN t)) ∧ w' = w := by
  have h := sumN_low t
  have HP := Shut.mk (implSumOf t w htab hs)
  unfold u32 at HP
  rw [show (((W.sumOf t).toNat : Nat) : Int) = sumN t from rfl] at HP
  generalize sumN t = q at *
  clear htab
  go_enter Tryd.func18, Tryd.ntmps18
  go_wp2_with fail
  refine HP.out.mono ?_
  rintro e w1 ⟨rfl, rfl⟩
  go_wp2_with fail
  go_ret
  exact ⟨rfl, rfl⟩
theorem implSumText (t : ByteArray) (w : World) (htab : SumTab w) (hs : t.size ≤ 1048576) : Calls Tryd.prog 18 #[.string t] w fun e w' => e = .returned (.int .i64 (sumN t)) ∧ Below w.heap.size w w' :=
  (implSum t w htab hs).mono (by rintro e w1 ⟨rfl, rfl⟩; exact ⟨rfl, Below.refl _ _⟩)
set_option maxRecDepth 100000 in
theorem implSummed (u : UnM) (w : World) (htab : SumTab w) (hs : u.text.size ≤ 1048576) : Calls Tryd.prog 36 #[unv u] w fun e w' => e = .returned (unv (summed u)) ∧ Below w.heap.size w w' := by
  have HS0 := Shut.mk (((SL.start w).new #[.int .i64 u.group, .int .i64 u.index, .string u.text, .int .i64 u.sum] 32).new #[.int .i64 0, .int .i64 0, .string ⟨#[]⟩, .int .i64 0] 32)
  simp only [World.size_alloc] at HS0
  have HT := Shut.mk (fun (W : World) (hb : Below w.heap.size w W) => implSum u.text W (htab.stays hb) hs)
  clear htab
  obtain ⟨g, i, t, s⟩ := u
  unfold summed
  dsimp only [unv] at *
  generalize sumN t = sn at HT ⊢
  go_enter Tryd.func36, Tryd.ntmps36
  go_upto_region 1 with fail
  refine wp_shade (fun W => SL w W [bxS (w.heap.size + 1) [.int .i64 0, .int .i64 0, .string ⟨#[]⟩, .int .i64 0], bxS w.heap.size [.int .i64 g, .int .i64 i, .string t, .int .i64 s]]) HS0.out ?_
  intro W hW
  have H := Shut.mk hW
  clear HS0 hW
  have x2 := (H.out.bx 1 rfl 2 _ rfl).1
  obtain ⟨y3, y3z⟩ := H.out.bx 1 rfl 3 _ rfl
  go_upto_region 2 with (go_at_call 18; refine (HT.out _ H.out.bel).mono ?_; rintro e w1 ⟨rfl, hw1⟩; subst hw1)
  have H2 := Shut.mk (H.out.put 1 rfl 3 (.int .i64 sn) (by simp))
  simp only [List.set_cons_zero, List.set_cons_succ] at H2
  refine wp_shade (fun W => SL w W [bxS (w.heap.size + 1) [.int .i64 0, .int .i64 0, .string ⟨#[]⟩, .int .i64 0], bxS w.heap.size [.int .i64 g, .int .i64 i, .string t, .int .i64 sn]]) H2.out ?_
  intro W3 hW
  clear H H2 x2 y3 y3z
  have H := Shut.mk hW
  clear hW
  have x0 := (H.out.bx 1 rfl 0 _ rfl).1
  have x1 := (H.out.bx 1 rfl 1 _ rfl).1
  have x2 := (H.out.bx 1 rfl 2 _ rfl).1
  have x3 := (H.out.bx 1 rfl 3 _ rfl).1
  obtain ⟨r0, r0z⟩ := H.out.bx 0 rfl 0 _ rfl
  obtain ⟨r1, r1z⟩ := H.out.bx 0 rfl 1 _ rfl
  obtain ⟨r2, r2z⟩ := H.out.bx 0 rfl 2 _ rfl
  obtain ⟨r3, r3z⟩ := H.out.bx 0 rfl 3 _ rfl
  go_wp2_with fail
  have HE := Shut.mk ((((H.out.put 0 rfl 0 (.int .i64 g) (by simp)).put 0 rfl 1 (.int .i64 i) (by simp)).put 0 rfl 2 (.string t) (by simp)).put 0 rfl 3 (.int .i64 sn) (by simp))
  exact bodyPost_ret (v := .agg #[.int .i64 g, .int .i64 i, .string t, .int .i64 sn]) (by simp [results, Tryd.results36, go_sem, r0, r1, r2, r3]) rfl ⟨rfl, HE.out.bel⟩
theorem eqgUn (x y : Operand) (g i : Int) (t : ByteArray) (s s' : Int) (W : World) : Sem.run Tryd.prog (eqGuard BinOp.eql 32 x y (.agg #[.int .i64 g, .int .i64 i, .string t, .int .i64 s]) (.agg #[.int .i64 g, .int .i64 i, .string t, .int .i64 s'])) W = .ok () W := by kernel_rfl
theorem eqUn (g i : Int) (t : ByteArray) (s s' : Int) (W : World) : Sem.run Tryd.prog (binOp BinOp.eql 32 (.agg #[.int .i64 g, .int .i64 i, .string t, .int .i64 s]) (.agg #[.int .i64 g, .int .i64 i, .string t, .int .i64 s'])) W = .ok (.bool (s == s')) W := by
  rw [run_eql_struct, run_equalIn_agg W 9999 32 _ _ (by kernel_rfl) (by kernel_rfl)]
  simp [Op.eqFields, go_sem]
  by_cases h1 : s = s' <;> simp [h1]
set_option maxRecDepth 100000 in
set_option maxHeartbeats 1000000 in
theorem implSound (u : UnM) (w : World) (htab : SumTab w) (hs : u.text.size ≤ 1048576) : Calls Tryd.prog 38 #[unv u] w fun e w' => e = .returned (.bool (unSound u)) ∧ Below w.heap.size w w' := by
  have HS0 := Shut.mk ((SL.start w).new #[.int .i64 u.group, .int .i64 u.index, .string u.text, .int .i64 u.sum] 32)
  have HT := Shut.mk (fun (W : World) (hb : Below w.heap.size w W) => implSummed u W (htab.stays hb) hs)
  clear htab
  obtain ⟨g, i, t, s⟩ := u
  unfold unSound
  unfold summed at HT
  dsimp only [unv] at *
  have hek := eqUn g i t s (sumN t)
  have heg := fun x y => eqgUn x y g i t s (sumN t)
  generalize sumN t = sn at *
  generalize (s == sn) = R at *
  go_enter Tryd.func38, Tryd.ntmps38
  go_upto_region 1 with fail
  refine wp_shade (fun W => SL w W [bxS w.heap.size [.int .i64 g, .int .i64 i, .string t, .int .i64 s]]) HS0.out ?_
  intro W hW
  have H := Shut.mk hW
  clear HS0 hW
  have lq : w.heap.size < W.heap.size := (H.out.at 0 rfl).1
  have g0 : ∀ X : Grow W, X.val.cell? ⟨w.heap.size, 0, none⟩ = some (.int .i64 g) := fun X => X.cell (H.out.bx 0 rfl 0 _ rfl).1 lq
  have g1 : ∀ X : Grow W, X.val.cell? ⟨w.heap.size, 1, none⟩ = some (.int .i64 i) := fun X => X.cell (H.out.bx 0 rfl 1 _ rfl).1 lq
  have g2 : ∀ X : Grow W, X.val.cell? ⟨w.heap.size, 2, none⟩ = some (.string t) := fun X => X.cell (H.out.bx 0 rfl 2 _ rfl).1 lq
  have g3 : ∀ X : Grow W, X.val.cell? ⟨w.heap.size, 3, none⟩ = some (.int .i64 s) := fun X => X.cell (H.out.bx 0 rfl 3 _ rfl).1 lq
  have HK := Shut.mk (fun X => calls_grow (w := W) (fun W' (hb : Below W.heap.size W W') => HT.out W' (H.out.bel.trans (hb.mono H.out.bel.size))) X)
  have HGR : Shut (∀ X : Grow W, Below w.heap.size w X.val) := ⟨fun X => (H.out.below X.bel).bel⟩
  refine wp_region_grow (by kernel_rfl) (by kernel_rfl) ?_
  repeat (go_big_quiet_step (first | (go_at_call 36; with_reducible exact HK.out _)))
  refine wpQuiet_nil ?_
  rintro _ ⟨X, rfl⟩
  go_wp2_with fail
  go_ret
  exact ⟨rfl, HGR.out X⟩
set_option maxRecDepth 100000 in
set_option maxHeartbeats 1000000 in
theorem implSpoilt (u : UnM) (at9 : Int) (w : World) (hat : 0 ≤ at9) (hpos : 0 < u.text.size) :
    Calls Tryd.prog 40 #[unv u, .int .i64 at9] w fun e w' => e = .returned (unv ⟨u.group, u.index, turnAt u.text (at9.toNat % u.text.size), u.sum⟩) ∧ Below w.heap.size w w' := by
  have HS0 := Shut.mk (((SL.start w).new #[.int .i64 u.group, .int .i64 u.index, .string u.text, .int .i64 u.sum] 32).new #[.int .i64 0, .int .i64 0, .string ⟨#[]⟩, .int .i64 0] 32)
  simp only [World.size_alloc] at HS0
  obtain ⟨ug, ui, t, s⟩ := u
  dsimp only [unv] at *
  obtain ⟨T, hT⟩ : ∃ T, T = turnAt t (at9.toNat % t.size) := ⟨_, rfl⟩
  rw [← hT]
  have HTT := Shut.mk hT
  clear hT
  go_enter Tryd.func40, Tryd.ntmps40
  go_upto_region 1 with fail
  refine wp_shade (fun W => SL w W [bxS (w.heap.size + 1) [.int .i64 0, .int .i64 0, .string ⟨#[]⟩, .int .i64 0], bxS w.heap.size [.int .i64 ug, .int .i64 ui, .string t, .int .i64 s]]) HS0.out ?_
  intro W4 hW
  have H := Shut.mk hW
  clear HS0 hW
  have x2 := (H.out.bx 1 rfl 2 _ rfl).1
  obtain ⟨W5, c5, hcv, hrow5, hb5⟩ := bytes_made W4 t
  obtain ⟨bb, hbb⟩ : ∃ q, q = W4.heap.size := ⟨_, rfl⟩
  have H5 := Shut.mk (H.out.add (s := byS bb t.data.toList) hb5 (by rw [hbb]; exact hrow5) (byS.loc _ _) (by rw [hbb]; exact Nat.le_refl _) (by rw [hbb]; exact hrow5.1))
  rw [← hbb] at hcv
  clear hrow5 hb5 hbb H
  go_upto_region 2 with fail
  obtain ⟨j, hj⟩ : ∃ j : Nat, at9.tmod (t.size : Int) = (j : Int) := by
    rw [Int.tmod_eq_emod_of_nonneg hat]
    exact Int.eq_ofNat_of_zero_le (Int.emod_nonneg _ (by omega))
  have hj2 : j < t.size ∧ j = at9.toNat % t.size := by
    rw [Int.tmod_eq_emod_of_nonneg hat] at hj
    have h1 := Int.emod_lt_of_pos at9 (show (0 : Int) < (t.size : Int) by omega)
    obtain ⟨q, rfl⟩ := Int.eq_ofNat_of_zero_le hat
    simp only [Int.toNat_natCast] at *
    omega
  have HJ := Shut.mk hj2
  have hne : ¬ ((t.size : Int) = 0) := by omega
  have hL : t.data.toList.length = t.size := rfl
  obtain ⟨x, hx⟩ : ∃ o : UInt8, t.data.toList.getD j 0 = o := ⟨_, rfl⟩
  have hci := (show BRow W5 bb t.data.toList from H5.out.at 0 rfl).2 j (by have := HJ.out.1; omega)
  rw [hx] at hci
  obtain ⟨hc1, hc2⟩ := hci
  have hxo := bits_one x
  have j0 : (0 : Int) ≤ (j : Int) := by omega
  have j1 : (j : Int) < (t.size : Int) := by have := HJ.out.1; omega
  have HX := Shut.mk hx
  have H6 := Shut.mk (H5.out.turn 0 rfl (W' := W5.setCell ⟨bb, j, none⟩ (.int .u8 ((x ^^^ 1).toNat : Int))) (Turned.of_grown (gb_set' W5 bb j _) (Nat.le_refl _) (Nat.lt_succ_self _)) ((show BRow W5 bb t.data.toList from H5.out.at 0 rfl).set j (x ^^^ 1) (by have := HJ.out.1; omega)) (byS.loc _ _))
  simp only [List.set_cons_zero] at H6
  have HT : Shut ((⟨(t.data.toList.set j (x ^^^ 1)).toArray⟩ : ByteArray) = T) := ⟨by rw [HTT.out]; unfold turnAt; rw [← HJ.out.2, HX.out]⟩
  clear hj2 hx H5
  generalize x ^^^ 1 = z at *
  go_upto_region 3 with fail
  refine wp_shade (fun W => SL w W [byS bb (t.data.toList.set j z), bxS (w.heap.size + 1) [.int .i64 0, .int .i64 0, .string ⟨#[]⟩, .int .i64 0], bxS w.heap.size [.int .i64 ug, .int .i64 ui, .string t, .int .i64 s]]) (by first | exact H6.out.drew | exact H6.out) ?_
  intro W7 hW
  have H := Shut.mk hW.tail
  have hcv2 := brow_string (cap := c5) (show BRow W7 bb (t.data.toList.set j z) from hW.at 0 rfl)
  rw [List.length_set, hL, HT.out] at hcv2
  clear hW H6 hcv hc1 hc2 hxo hj x2
  obtain ⟨y2, y2z⟩ := H.out.bx 1 rfl 2 _ rfl
  have H8 := Shut.mk (H.out.put 1 rfl 2 (.string T) (by simp))
  simp only [List.set_cons_zero, List.set_cons_succ] at H8
  go_upto_region 4 with fail
  refine wp_shade (fun W => SL w W [bxS (w.heap.size + 1) [.int .i64 0, .int .i64 0, .string ⟨#[]⟩, .int .i64 0], bxS w.heap.size [.int .i64 ug, .int .i64 ui, .string T, .int .i64 s]]) H8.out ?_
  intro W8 hW
  clear H y2 y2z H8
  have H := Shut.mk hW
  clear hW
  have x0 := (H.out.bx 1 rfl 0 _ rfl).1
  have x1 := (H.out.bx 1 rfl 1 _ rfl).1
  have x2 := (H.out.bx 1 rfl 2 _ rfl).1
  have x3 := (H.out.bx 1 rfl 3 _ rfl).1
  obtain ⟨r0, r0z⟩ := H.out.bx 0 rfl 0 _ rfl
  obtain ⟨r1, r1z⟩ := H.out.bx 0 rfl 1 _ rfl
  obtain ⟨r2, r2z⟩ := H.out.bx 0 rfl 2 _ rfl
  obtain ⟨r3, r3z⟩ := H.out.bx 0 rfl 3 _ rfl
  go_wp2_with fail
  have HE := Shut.mk ((((H.out.put 0 rfl 0 (.int .i64 ug) (by simp)).put 0 rfl 1 (.int .i64 ui) (by simp)).put 0 rfl 2 (.string T) (by simp)).put 0 rfl 3 (.int .i64 s) (by simp))
  exact bodyPost_ret (v := .agg #[.int .i64 ug, .int .i64 ui, .string T, .int .i64 s]) (by simp [results, Tryd.results40, go_sem, r0, r1, r2, r3]) rfl ⟨rfl, HE.out.bel⟩
end Go.Proofs.YtbanfccnmbmcfaaDoor
