/- The program's own copyHost (written by gen/mkhpb.py). -/
import Derived.Test.YtbanfccnmbmcfaaShelf
import Derived.Test.YtbanfccnmbmcfaaSpM
import Derived.Test.YtbanfccnmbmcfaaHpA
import Derived.Laws.MakeOwn
import Derived.Deep.AppendLies
namespace Go.Proofs.Ytbanfccnmbmcfaa
set_option maxRecDepth 100000
open Go.RowKit BigFrame
attribute [local go_sem ↓] Go.wp_at_zero Go.wp_at_succ

set_option maxRecDepth 100000 in
theorem implClone (s : ByteArray) (w : World) (hs : s.size ≤ 281474976710656) : Calls Try.prog 33 #[.string s] w fun e w' => e = .returned (.string s) ∧ Below w.heap.size w w' := by
  have HC := Shut.mk (fun W => Try.stringslite_Clone s W hs)
  go_enter Try.func33, Try.ntmps33
  go_wp2_with fail
  refine (HC.out _).mono ?_
  rintro e w1 ⟨rfl, hb⟩
  go_wp2_with fail
  go_ret
  exact ⟨rfl, hb⟩
set_option maxRecDepth 100000 in
set_option maxHeartbeats 4000000 in
theorem implCopyHost (H : HM) (a : Option Addr) (cap : Nat) (w : World) (hr : UnRow w a H.us) (hl : H.us.length ≤ 3000000) (hz : ∀ u ∈ H.us, u.text.size ≤ 1048576) :
    Calls Try.prog 23 #[hov H a cap] w fun e w' => HoPost H w e w' := by
  obtain ⟨i0, hin, hz0, hz1, hz2⟩ := info_parts infoUnit
  have HS0 := Shut.mk (((SL.start w).new #[.int .i64 H.id, .bool H.up, .slice a H.us.length cap] 29).new #[.int .i64 0, .bool false, .slice none 0 0] 29)
  simp only [World.size_alloc] at HS0
  have HR := Shut.mk hr
  have HZ := Shut.mk hz
  clear hr hz
  obtain ⟨id, up, us⟩ := H
  show Calls Try.prog 23 #[.agg #[.int .i64 id, .bool up, .slice a us.length cap]] w fun e w' => HoPost ⟨id, up, us⟩ w e w'
  dsimp only at *
  obtain ⟨n, hn⟩ : ∃ n, n = us.length := ⟨_, rfl⟩
  have HN := Shut.mk hn
  rw [← hn] at HS0 hl ⊢
  clear hn
  go_enter Try.func23, Try.ntmps23
  go_upto_region 1 with fail
  refine wp_shade (fun W => SL w W [bxS (w.heap.size + 1) [.int .i64 0, .bool false, .slice none 0 0], bxS w.heap.size [.int .i64 id, .bool up, .slice a n cap]]) HS0.out ?_
  intro W0 hW
  have HW := Shut.mk hW
  clear HS0 hW
  obtain ⟨W1, hmk, hown, hgr⟩ := run_make_own (P := Try.prog) W0 w.heap.size 27 39 i0 _ 4 Try.underlying27 hin hz0 hz1 .i64 .i64 n (by rw [hz2]; omega) (by unfold maxLen; omega) HW.out.bel.size
  have HO := Shut.mk (OwS.more (OwS.nil (ty := 39) (sz := 4) HW.out) (Below.refl _ _) hown hgr (.inr rfl))
  have x2 := (HW.out.bx 1 rfl 2 _ rfl).1
  have y2 := (HO.out.sl.bx 1 rfl 2 _ rfl).1
  obtain ⟨g0, hg0⟩ : ∃ q, q = W0.heap.size := ⟨_, rfl⟩
  rw [← hg0] at hmk HO
  clear hown hgr HW hg0
  go_upto_region 3 with fail
  clear x2 y2 hmk
  go_loopw [3, 13] (fun v9 i9 wr => ∃ (k : Nat), i9 = .int .i64 k ∧ k ≤ n ∧ Shut (OwS w wr [bxS (w.heap.size + 1) [.int .i64 0, .bool false, .slice none 0 0], bxS w.heap.size [.int .i64 id, .bool up, .slice a n cap]] 39 4 v9 k (unS (us.take k)))) (fun _ i9 _ => n - (intOf i9).toNat)
  case atStart => exact ⟨0, rfl, Nat.zero_le _, HO⟩
  case round =>
    clear HO
    obtain ⟨k, rfl, hk, HW⟩ := hrel
    obtain ⟨av, cv, rfl⟩ := own_row_slice HW.out.own
    by_cases hlt : k < n
    · have hku : k < us.length := by rw [← HN.out]; exact hlt
      obtain ⟨b, off, u, rfl, hu, lb, hc⟩ := un_at HR.out HW.out.sl.bel hku
      obtain ⟨d0, d1, d2, d3⟩ := hc wr (Below.refl _ _)
      have k0 : (0 : Int) ≤ (k : Int) := by omega
      have k1 : (k : Int) < (n : Int) := by omega
      have HUT : Shut (u.text.size ≤ 1048576) := ⟨by rw [hu]; exact HZ.out _ (List.getElem_mem hku)⟩
      have HNX : Shut (unS (us.take (k + 1)) = unS (us.take k) ++ [.int .i64 u.group, .int .i64 u.index, .string u.text, .int .i64 u.sum]) := ⟨by rw [List.take_succ_eq_append_getElem hku, ← hu, uns_app]; simp [unS, unC]⟩
      have HX := Shut.mk (HW.out.box #[.int .i64 u.group, .int .i64 u.index, .string u.text, .int .i64 u.sum] 39)
      obtain ⟨bb, hbb⟩ : ∃ q, q = wr.heap.size := ⟨_, rfl⟩
      rw [← hbb] at HX
      clear hc hu
      go_upto_region 5 with fail
      refine wp_shade (fun W => OwS w W (bxS bb [.int .i64 u.group, .int .i64 u.index, .string u.text, .int .i64 u.sum] :: [bxS (w.heap.size + 1) [.int .i64 0, .bool false, .slice none 0 0], bxS w.heap.size [.int .i64 id, .bool up, .slice (some ⟨b, off, none⟩) n cap]]) 39 4 (.slice av k cv) k (unS (us.take k))) HX.out ?_
      intro W2 hW
      rw [← hbb]
      have H2 := Shut.mk hW
      clear hW HX hbb d0 d1 d2 d3 HW
      have z2 := (H2.out.sl.bx 0 rfl 2 _ rfl).1
      go_upto_region 6 with (go_at_call 33; refine (implClone u.text _ (by have := HUT.out; omega)).mono ?_; rintro e w3 ⟨rfl, hb⟩; have H3 := Shut.mk (H2.out.below hb); obtain ⟨y2, y2z⟩ := H3.out.sl.bx 0 rfl 2 _ rfl; clear hb z2 H2)
      have H4 := Shut.mk (H3.out.put 0 rfl 2 (.string u.text) (by simp))
      simp only [List.set_cons_zero, List.set_cons_succ] at H4
      refine wp_shade (fun W => OwS w W (bxS bb [.int .i64 u.group, .int .i64 u.index, .string u.text, .int .i64 u.sum] :: [bxS (w.heap.size + 1) [.int .i64 0, .bool false, .slice none 0 0], bxS w.heap.size [.int .i64 id, .bool up, .slice (some ⟨b, off, none⟩) n cap]]) 39 4 (.slice av k cv) k (unS (us.take k))) H4.out ?_
      intro W4 hW
      have H5 := Shut.mk hW
      clear hW H4 H3 y2 y2z
      have z0 := (H5.out.sl.bx 0 rfl 0 _ rfl).1
      have z1 := (H5.out.sl.bx 0 rfl 1 _ rfl).1
      have z2 := (H5.out.sl.bx 0 rfl 2 _ rfl).1
      have z3 := (H5.out.sl.bx 0 rfl 3 _ rfl).1
      have lz : bb < W4.heap.size := (show WCells W4 bb _ from H5.out.sl.at 0 rfl).1
      have hown := H5.out.own
      have hbs := H5.out.sl.bel.size
      go_wp2_with (at_builtin; refine wpList_append_own_at _ rfl _ _ 27 rfl w.heap.size 39 i0 _ 4 40 Try.underlying27 hin hz0 hz1 hz2 rfl (by decide) _ _ _ rfl (hown.alloc _) ⟨W4.heap.size, 0, none⟩ 1 1 [.int .i64 u.group, .int .i64 u.index, .string u.text, .int .i64 u.sum] rfl rfl (World.news_of_block (cs := #[.int .i64 u.group, .int .i64 u.index, .string u.text, .int .i64 u.sum]) (t := 39) (fr := (0, 0)) (heap_alloc_new W4 _)) ?c2 ?c3 ?c4 ?c5 ?_)
      case c2 => simp [Value.oneCell']
      case c3 => unfold maxLen; omega
      case c4 => omega
      case c5 => first | omega | (simp; omega)
      intro v9 w9 ho hg _ hat
      have HL9 := Shut.mk (H5.out.more ((Below.refl _ _).alloc (Nat.le_refl _) _) ho hg (by simpa using hat)).tail
      rw [← HNX.out] at HL9
      clear ho hg hat hown hbs z0 z1 z2 z3 lz H5
      go_wp2_with fail
      go_roundw
      case rel => exact ⟨k + 1, by go_num, by omega, HL9⟩
      case measure => simp [intOf]; omega
    · obtain rfl : k = n := by omega
      rw [List.take_of_length_le (by have := HN.out; omega)] at HW
      obtain ⟨x2, x2z⟩ := HW.out.sl.bx 1 rfl 2 _ rfl
      have HP := Shut.mk (HW.out.put 1 rfl 2 (.slice av k cv) (by simp))
      simp only [List.set_cons_zero, List.set_cons_succ] at HP
      go_upto_region 9 with fail
      refine wp_shade (fun W' => OwS w W' [bxS (w.heap.size + 1) [.int .i64 0, .bool false, .slice none 0 0], bxS w.heap.size [.int .i64 id, .bool up, .slice av k cv]] 39 4 (.slice av k cv) k (unS us)) HP.out ?_
      intro W7 h7
      have H7 := Shut.mk h7
      clear h7 HP x2 x2z HW
      have z0 := (H7.out.sl.bx 1 rfl 0 _ rfl).1
      have z1 := (H7.out.sl.bx 1 rfl 1 _ rfl).1
      have z2 := (H7.out.sl.bx 1 rfl 2 _ rfl).1
      obtain ⟨r0, r0z⟩ := H7.out.sl.bx 0 rfl 0 _ rfl
      obtain ⟨r1, r1z⟩ := H7.out.sl.bx 0 rfl 1 _ rfl
      obtain ⟨r2, r2z⟩ := H7.out.sl.bx 0 rfl 2 _ rfl
      go_wp2_with fail
      have HE := Shut.mk ((((H7.out.put 0 rfl 0 (.int .i64 id) (by simp)).put 0 rfl 1 (.bool up) (by simp)).put 0 rfl 2 (.slice av k cv) (by simp)))
      obtain ⟨a8, c8, e8, hf8, hc8⟩ := HE.out.frw
      obtain ⟨rfl, rfl⟩ : av = a8 ∧ cv = c8 := by simpa using e8
      refine bodyPost_ret (v := .agg #[.int .i64 id, .bool up, .slice av k cv]) (by simp [results, Try.results23, go_sem, r0, r1, r2]) rfl ⟨av, cv, by rw [HN.out], hf8, by have := HN.out; show us.length ≤ cv; omega, HE.out.sl.bel⟩
end Go.Proofs.Ytbanfccnmbmcfaa
