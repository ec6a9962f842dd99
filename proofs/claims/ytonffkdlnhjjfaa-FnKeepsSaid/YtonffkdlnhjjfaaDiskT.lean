/- The model's walk that puts a file into its place. -/
import Derived.Test.YtonffkdlnhjjfaaDiskQ
import Derived.BigQuiet
namespace Go.Proofs.Ytonffkdlnhjjfaa
open Go.RowKit
attribute [local go_sem ↓] Go.wp_at_zero Go.wp_at_succ

def lessF (f : FM) (fs : List FM) : List FM := fs.filter fun g => Op.bytesLess g.name.toList f.name.toList
def moreF (f : FM) (fs : List FM) : List FM := fs.filter fun g => !(Op.bytesLess g.name.toList f.name.toList || g.name.toList == f.name.toList)
def putF (f : FM) (fs : List FM) : List FM := lessF f fs ++ [f] ++ moreF f fs
theorem lessF_step (f : FM) (fs : List FM) (k : Nat) (h : k < fs.length) : lessF f (fs.take (k + 1)) = lessF f (fs.take k) ++ (if Op.bytesLess fs[k].name.toList f.name.toList then [fs[k]] else []) := by
  unfold lessF
  rw [List.take_succ_eq_append_getElem h, List.filter_append]
  cases hc : Op.bytesLess fs[k].name.toList f.name.toList <;> simp [hc]
theorem moreF_step (f : FM) (fs : List FM) (k : Nat) (h : k < fs.length) : moreF f (fs.take (k + 1)) = moreF f (fs.take k) ++ (if (!(Op.bytesLess fs[k].name.toList f.name.toList || fs[k].name.toList == f.name.toList)) = true then [fs[k]] else []) := by
  unfold moreF
  rw [List.take_succ_eq_append_getElem h, List.filter_append]
  congr 1
  rw [List.filter_cons, List.filter_nil]
theorem lessF_len (f : FM) (fs : List FM) : (lessF f fs).length ≤ fs.length := List.length_filter_le _ _
theorem moreF_len (f : FM) (fs : List FM) : (moreF f fs).length ≤ fs.length := List.length_filter_le _ _
set_option maxHeartbeats 4000000 in
set_option maxRecDepth 100000 in
theorem l03Put_any (a : Option Addr) (fs : List FM) (cap : Nat) (p : FM) (w : World) (hr : FRow w a fs) (hl : fs.length ≤ 1048576) :
    Calls Try.prog 24 #[.agg #[.slice a fs.length cap], fv p] w fun e w' => MadeDisk (putF p fs) w e w' := by
  obtain ⟨i0, hi, hz0, hz1, hz2⟩ := info_parts infoFile
  have HR : Hid (FRow w a fs) := hr
  have hx0 := (((wcells_new w #[.slice a fs.length cap] 26).alloc (.cells #[.string p.name, .string p.text, .int .i64 p.kept] 36)).alloc (.cells #[.slice none 0 0] 26)).alloc (.cells #[.slice none 0 0] 26)
  have hp0 := ((wcells_new (w.alloc (.cells #[.slice a fs.length cap] 26)) #[.string p.name, .string p.text, .int .i64 p.kept] 36).alloc (.cells #[.slice none 0 0] 26)).alloc (.cells #[.slice none 0 0] 26)
  have hy0 := (wcells_new ((w.alloc (.cells #[.slice a fs.length cap] 26)).alloc (.cells #[.string p.name, .string p.text, .int .i64 p.kept] 36)) #[.slice none 0 0] 26).alloc (.cells #[.slice none 0 0] 26)
  have hv0 := wcells_new (((w.alloc (.cells #[.slice a fs.length cap] 26)).alloc (.cells #[.string p.name, .string p.text, .int .i64 p.kept] 36)).alloc (.cells #[.slice none 0 0] 26)) #[.slice none 0 0] 26
  simp only [World.size_alloc] at hx0 hp0 hy0 hv0
  have HX0 : Shut (WCells ((((w.alloc (.cells #[.slice a fs.length cap] 26)).alloc (.cells #[.string p.name, .string p.text, .int .i64 p.kept] 36)).alloc (.cells #[.slice none 0 0] 26)).alloc (.cells #[.slice none 0 0] 26)) w.heap.size [.slice a fs.length cap]) := ⟨hx0⟩
  have HP0 : Shut (WCells ((((w.alloc (.cells #[.slice a fs.length cap] 26)).alloc (.cells #[.string p.name, .string p.text, .int .i64 p.kept] 36)).alloc (.cells #[.slice none 0 0] 26)).alloc (.cells #[.slice none 0 0] 26)) (w.heap.size + 1) [.string p.name, .string p.text, .int .i64 p.kept]) := ⟨hp0⟩
  have HY0 : Shut (WCells ((((w.alloc (.cells #[.slice a fs.length cap] 26)).alloc (.cells #[.string p.name, .string p.text, .int .i64 p.kept] 36)).alloc (.cells #[.slice none 0 0] 26)).alloc (.cells #[.slice none 0 0] 26)) (w.heap.size + 1 + 1) [.slice none 0 0]) := ⟨hy0⟩
  have HV0 : Shut (WCells ((((w.alloc (.cells #[.slice a fs.length cap] 26)).alloc (.cells #[.string p.name, .string p.text, .int .i64 p.kept] 36)).alloc (.cells #[.slice none 0 0] 26)).alloc (.cells #[.slice none 0 0] 26)) (w.heap.size + 1 + 1 + 1) [.slice none 0 0]) := ⟨hv0⟩
  have HB0 : Hid (Below w.heap.size w ((((w.alloc (.cells #[.slice a fs.length cap] 26)).alloc (.cells #[.string p.name, .string p.text, .int .i64 p.kept] 36)).alloc (.cells #[.slice none 0 0] 26)).alloc (.cells #[.slice none 0 0] 26))) := ((((Below.refl _ _).alloc (Nat.le_refl _) _).alloc (by simp) _).alloc (by simp; omega) _).alloc (by simp; omega) _
  clear hr hx0 hp0 hy0 hv0
  go_enter Try.func24, Try.ntmps24
  go_wp2_with fail
  go_loopw [6] (fun i wr => ∃ (k : Nat) (v : Value), i = .int .i64 k ∧ k ≤ fs.length ∧ Shut (WCells wr w.heap.size [.slice a fs.length cap]) ∧ Shut (WCells wr (w.heap.size + 1) [.string p.name, .string p.text, .int .i64 p.kept]) ∧ Shut (WCells wr (w.heap.size + 1 + 1) [.slice none 0 0]) ∧ Shut (WCells wr (w.heap.size + 1 + 1 + 1) [v]) ∧
      wr.ownsRow (w.heap.size + 4) 36 3 v (lessF p (fs.take k)).length (fcs (lessF p (fs.take k))) ∧ Below w.heap.size w wr) (fun i _ => fs.length - (intOf i).toNat)
  case atStart => exact ⟨0, .slice none 0 0, rfl, Nat.zero_le _, HX0, HP0, HY0, HV0, by simp [lessF, fcs]; exact own_nil _ _ _, HB0.out⟩
  case round =>
    obtain ⟨k, v, rfl, hk, hx, hz, hy, hv, hown, hb⟩ := hrel
    have x0 := (hx.out.2 0 _ rfl).1
    have p0 := (hz.out.2 0 _ rfl).1
    by_cases hlt : k < fs.length
    · obtain ⟨b, off, rfl, lb0, hc0⟩ := FRow.at HR.out (by omega)
      obtain ⟨d0, d1, d2⟩ := hc0 k hlt
      rw [← hb.cell (p := ⟨b, off + k * 3, none⟩) lb0] at d0
      rw [← hb.cell (p := ⟨b, off + k * 3 + 1, none⟩) lb0] at d1
      rw [← hb.cell (p := ⟨b, off + k * 3 + 2, none⟩) lb0] at d2
      have hstep := lessF_step p fs k hlt
      obtain ⟨f, hfe⟩ : ∃ f, f = fs[k] := ⟨_, rfl⟩
      rw [← hfe] at d0 d1 d2 hstep
      have k0 : (0 : Int) ≤ (k : Int) := by omega
      have k1 : (k : Int) < (fs.length : Int) := by omega
      have hlen : (lessF p (fs.take k)).length ≤ 3000000 := by have := lessF_len p (fs.take k); simp at this; omega
      clear hfe hc0
      by_cases hn : Op.bytesLess f.name.toList p.name.toList = true
      · rw [if_pos hn] at hstep
        have HST : Hid (_ = _) := hstep
        clear hstep
        go_wp2_with fail
        go_quiet (fail)
        have hx' : Shut (WCells (wr.drewN nq) w.heap.size [.slice (some ⟨b, off, none⟩) fs.length cap]) := ⟨hx.out⟩
        have hz' : Shut (WCells (wr.drewN nq) (w.heap.size + 1) [.string p.name, .string p.text, .int .i64 p.kept]) := ⟨hz.out⟩
        have hy' : Shut (WCells (wr.drewN nq) (w.heap.size + 1 + 1) [.slice none 0 0]) := ⟨hy.out⟩
        have hv' : Shut (WCells (wr.drewN nq) (w.heap.size + 1 + 1 + 1) [v]) := ⟨hv.out⟩
        have hown' : (wr.drewN nq).ownsRow (w.heap.size + 4) 36 3 v (lessF p (fs.take k)).length (fcs (lessF p (fs.take k))) := hown
        have hb' : Below w.heap.size w (wr.drewN nq) := hb.trans ⟨rfl, rfl, rfl, Nat.le_refl _, fun _ _ => rfl⟩
        have d0' : (wr.drewN nq).cell? ⟨b, off + k * 3, none⟩ = some (.string f.name) := d0
        have d1' : (wr.drewN nq).cell? ⟨b, off + k * 3 + 1, none⟩ = some (.string f.text) := d1
        have d2' : (wr.drewN nq).cell? ⟨b, off + k * 3 + 2, none⟩ = some (.int .i64 f.kept) := d2
        clear hx hz hy hv hown hb d0 d1 d2 x0 p0
        generalize wr.drewN nq = wq at *
        have x0 := (hx'.out.2 0 _ rfl).1
        obtain ⟨vc, vf⟩ := hv'.out.2 0 _ rfl
        have HB : Hid (Below w.heap.size w wq) := hb'
        have hv1 : w.heap.size + 1 + 1 + 1 < wq.heap.size := hv'.out.1
        have lb1 : b < wq.heap.size := by omega
        have nv : v.ownBlock ≠ some (w.heap.size + 1 + 1 + 1) := fun e => by have := (hown'.lt _ e).1; omega
        clear hb'
        go_wp2_with fail
        go_region_law ((refine step_append_lies _ (by rfl) _ _ _ (by rfl) (w.heap.size + 4) 36 i0 _ 3 40 Try.underlying24 hi hz0 hz1 hz2 rfl (by omega) _ _ _ (by rfl) ((hown'.alloc _).drew) ⟨wq.heap.size, 0, none⟩ 1 1 [.string f.name, .string f.text, .int .i64 f.kept] (by rfl) (by rfl) (World.news_of_block (cs := #[.string f.name, .string f.text, .int .i64 f.kept]) (t := 36) (fr := (0, 0)) (heap_alloc_new wq _)) (by simp [Value.oneCell']) (by omega) (by unfold maxLen; omega) (by omega) (by simp; omega) (wq.heap.size + 1) (by simp) ?_; intro gg cap1 w1 hown1 hgrow hat hlt'; have vc1 := (cell_grown hgrow ⟨w.heap.size + 1 + 1 + 1, 0, none⟩ (by simp; omega) nv).trans ((hv'.out.alloc _).2 0 _ rfl).1; have vf1 := (frozen_grown hgrow ⟨w.heap.size + 1 + 1 + 1, 0, none⟩ (by simp; omega) nv).trans ((hv'.out.alloc _).2 0 _ rfl).2))
        all_goals go_wp2_with fail
        all_goals
          obtain ⟨u1, u2, u3, u4⟩ := var_grow hv'.out (show w.heap.size + 1 + 1 + 1 < w.heap.size + 4 by omega) hown' hgrow hown1
          refine ⟨⟨k + 1, _, by go_num, by omega, ⟨u1 _ _ (by omega) (by omega) hx'.out⟩, ⟨u1 _ _ (by omega) (by omega) hz'.out⟩, ⟨u1 _ _ (by omega) (by omega) hy'.out⟩, ⟨u2⟩, ?_, u4 _ _ (by omega) HB.out⟩, by simp [intOf]; omega⟩
          rw [HST.out, fcs_snoc, List.length_append]
          exact u3
      · have hn' : Op.bytesLess f.name.toList p.name.toList = false := by simpa using hn
        rw [if_neg hn, List.append_nil] at hstep
        have HST : Hid (_ = _) := hstep
        clear hstep hn
        go_wp2_with fail
        go_quiet (fail)
        go_wp2_with fail
        go_roundw
        case rel => exact ⟨k + 1, v, by go_num, by omega, ⟨hx.out⟩, ⟨hz.out⟩, ⟨hy.out⟩, ⟨hv.out⟩, by rw [HST.out]; exact hown, hb.trans ⟨rfl, rfl, rfl, Nat.le_refl _, fun _ _ => rfl⟩⟩
        case measure => simp [intOf]; omega
    · have e : k = fs.length := by omega
      subst e
      rw [List.take_length] at hown
      obtain ⟨vc, vf⟩ := hv.out.2 0 _ rfl
      have p1 := (hz.out.2 1 _ rfl).1
      have p2 := (hz.out.2 2 _ rfl).1
      have hv1 : w.heap.size + 1 + 1 + 1 < wr.heap.size := hv.out.1
      have nv : v.ownBlock ≠ some (w.heap.size + 1 + 1 + 1) := fun e => by have := (hown.lt _ e).1; omega
      have hlen : (lessF p fs).length ≤ 3000000 := by have := lessF_len p fs; omega
      have HB : Hid (Below w.heap.size w wr) := hb
      clear hb
      go_wp2_with (at_builtin; refine wpList_append_own _ rfl _ _ 24 rfl (w.heap.size + 4) 36 i0 _ 3 40 Try.underlying24 hi hz0 hz1 hz2 rfl (by decide) _ _ _ rfl (hown.alloc _) ⟨wr.heap.size, 0, none⟩ 1 1 [.string p.name, .string p.text, .int .i64 p.kept] rfl rfl (World.news_of_block (cs := #[.string p.name, .string p.text, .int .i64 p.kept]) (t := 36) (fr := (0, 0)) (heap_alloc_new wr _)) ?c2 ?c3 ?c4 ?c5 ?_)
      case c2 => simp [Value.oneCell']
      case c3 => unfold maxLen; omega
      case c4 => omega
      case c5 => simp; omega
      intro v3 w3 hown3 hgrow3 _
      obtain ⟨va, vcap, rfl⟩ := own_form hown3
      have vc1 := (cell_grown hgrow3 ⟨w.heap.size + 1 + 1 + 1, 0, none⟩ (by simp; omega) nv).trans ((hv.out.alloc _).2 0 _ rfl).1
      have vf1 := (frozen_grown hgrow3 ⟨w.heap.size + 1 + 1 + 1, 0, none⟩ (by simp; omega) nv).trans ((hv.out.alloc _).2 0 _ rfl).2
      obtain ⟨u1, u2, u3, u4⟩ := var_grow hv.out (show w.heap.size + 1 + 1 + 1 < w.heap.size + 4 by omega) hown (⟨hgrow3.os, hgrow3.tape, hgrow3.output, hgrow3.size, hgrow3.block⟩) hown3
      have HX3 : Shut (WCells (w3.setCell ⟨w.heap.size + 1 + 1 + 1, 0, none⟩ (.slice va ((lessF p fs).length + 1) vcap)) w.heap.size [.slice a fs.length cap]) := ⟨u1 _ _ (by omega) (by omega) hx.out⟩
      have HP3 : Shut (WCells (w3.setCell ⟨w.heap.size + 1 + 1 + 1, 0, none⟩ (.slice va ((lessF p fs).length + 1) vcap)) (w.heap.size + 1) [.string p.name, .string p.text, .int .i64 p.kept]) := ⟨u1 _ _ (by omega) (by omega) hz.out⟩
      have HY3 : Shut (WCells (w3.setCell ⟨w.heap.size + 1 + 1 + 1, 0, none⟩ (.slice va ((lessF p fs).length + 1) vcap)) (w.heap.size + 1 + 1) [.slice none 0 0]) := ⟨u1 _ _ (by omega) (by omega) hy.out⟩
      have HV3 : Shut (WCells (w3.setCell ⟨w.heap.size + 1 + 1 + 1, 0, none⟩ (.slice va ((lessF p fs).length + 1) vcap)) (w.heap.size + 1 + 1 + 1) [.slice va ((lessF p fs).length + 1) vcap]) := ⟨u2⟩
      have HB3 : Hid (Below w.heap.size w (w3.setCell ⟨w.heap.size + 1 + 1 + 1, 0, none⟩ (.slice va ((lessF p fs).length + 1) vcap))) := u4 _ _ (by omega) HB.out
      have HO3 : Hid ((w3.setCell ⟨w.heap.size + 1 + 1 + 1, 0, none⟩ (.slice va ((lessF p fs).length + 1) vcap)).ownsRow (w.heap.size + 4) 36 3 (.slice va ((lessF p fs).length + 1) vcap) (lessF p fs ++ [p]).length (fcs (lessF p fs ++ [p]))) := by
        have h : (w3.setCell ⟨w.heap.size + 1 + 1 + 1, 0, none⟩ (.slice va ((lessF p fs).length + 1) vcap)).ownsRow (w.heap.size + 4) 36 3 (.slice va ((lessF p fs).length + 1) vcap) (lessF p fs ++ [p]).length (fcs (lessF p fs ++ [p])) := by rw [fcs_snoc, List.length_append]; exact u3
        exact h
      clear u1 u2 u3 u4 hown3 hgrow3 hx hz hy hv hown x0 p0 p1 p2 vc vf
      go_wp2_with fail
      go_loopw [7] (fun i wr => ∃ (k : Nat) (v : Value), i = .int .i64 k ∧ k ≤ fs.length ∧ Shut (WCells wr w.heap.size [.slice a fs.length cap]) ∧ Shut (WCells wr (w.heap.size + 1) [.string p.name, .string p.text, .int .i64 p.kept]) ∧ Shut (WCells wr (w.heap.size + 1 + 1) [.slice none 0 0]) ∧ Shut (WCells wr (w.heap.size + 1 + 1 + 1) [v]) ∧
          wr.ownsRow (w.heap.size + 4) 36 3 v (lessF p fs ++ [p] ++ moreF p (fs.take k)).length (fcs (lessF p fs ++ [p] ++ moreF p (fs.take k))) ∧ Below w.heap.size w wr) (fun i _ => fs.length - (intOf i).toNat)
      case atStart => exact ⟨0, _, rfl, Nat.zero_le _, HX3, HP3, HY3, HV3, by simpa [moreF] using HO3.out, HB3.out⟩
      case round =>
        obtain ⟨k, v, rfl, hk, hx, hz, hy, hv, hown, hb⟩ := hrel
        have x0 := (hx.out.2 0 _ rfl).1
        have p0 := (hz.out.2 0 _ rfl).1
        by_cases hlt : k < fs.length
        · obtain ⟨b, off, rfl, lb0, hc0⟩ := FRow.at HR.out (by omega)
          obtain ⟨d0, d1, d2⟩ := hc0 k hlt
          rw [← hb.cell (p := ⟨b, off + k * 3, none⟩) lb0] at d0
          rw [← hb.cell (p := ⟨b, off + k * 3 + 1, none⟩) lb0] at d1
          rw [← hb.cell (p := ⟨b, off + k * 3 + 2, none⟩) lb0] at d2
          have hstep := moreF_step p fs k hlt
          obtain ⟨f, hfe⟩ : ∃ f, f = fs[k] := ⟨_, rfl⟩
          rw [← hfe] at d0 d1 d2 hstep
          have k0 : (0 : Int) ≤ (k : Int) := by omega
          have k1 : (k : Int) < (fs.length : Int) := by omega
          have hlen : (lessF p fs ++ [p] ++ moreF p (fs.take k)).length ≤ 3000000 := by have h1 := lessF_len p fs; have h2 := moreF_len p (fs.take k); simp at h2 ⊢; omega
          clear hfe hc0
          by_cases hA : Op.bytesLess f.name.toList p.name.toList = true
          · rw [if_neg (by simp [hA]), List.append_nil] at hstep
            have HST : Hid (_ = _) := hstep
            clear hstep
            go_wp2_with fail
            go_quiet (fail)
            go_wp2_with fail
            go_roundw
            case rel => exact ⟨k + 1, v, by go_num, by omega, ⟨hx.out⟩, ⟨hz.out⟩, ⟨hy.out⟩, ⟨hv.out⟩, by rw [HST.out]; exact hown, hb.trans ⟨rfl, rfl, rfl, Nat.le_refl _, fun _ _ => rfl⟩⟩
            case measure => simp [intOf]; omega
          · have hA' : Op.bytesLess f.name.toList p.name.toList = false := by simpa using hA
            clear hA
            by_cases hE : (f.name.toList == p.name.toList) = true
            · rw [if_neg (by simp [hE]), List.append_nil] at hstep
              have HST : Hid (_ = _) := hstep
              clear hstep
              go_wp2_with fail
              go_quiet (fail)
              go_wp2_with fail
              go_roundw
              case rel => exact ⟨k + 1, v, by go_num, by omega, ⟨hx.out⟩, ⟨hz.out⟩, ⟨hy.out⟩, ⟨hv.out⟩, by rw [HST.out]; exact hown, hb.trans ⟨rfl, rfl, rfl, Nat.le_refl _, fun _ _ => rfl⟩⟩
              case measure => simp [intOf]; omega
            · have hE' : (f.name.toList == p.name.toList) = false := by simpa using hE
              clear hE
              obtain ⟨ys, hys⟩ : ∃ ys, ys = lessF p fs ++ [p] ++ moreF p (fs.take k) := ⟨_, rfl⟩
              rw [← hys] at hown hlen
              have HYS : Hid (ys = lessF p fs ++ [p] ++ moreF p (fs.take k)) := hys
              clear hys
              rw [if_pos (show (!(Op.bytesLess f.name.toList p.name.toList || f.name.toList == p.name.toList)) = true by rw [hA', hE']; rfl)] at hstep
              have HST : Hid (_ = _) := hstep
              clear hstep
              go_wp2_with fail
              go_quiet (fail)
              have hx' : Shut (WCells (wr.drewN nq) w.heap.size [.slice (some ⟨b, off, none⟩) fs.length cap]) := ⟨hx.out⟩
              have hz' : Shut (WCells (wr.drewN nq) (w.heap.size + 1) [.string p.name, .string p.text, .int .i64 p.kept]) := ⟨hz.out⟩
              have hy' : Shut (WCells (wr.drewN nq) (w.heap.size + 1 + 1) [.slice none 0 0]) := ⟨hy.out⟩
              have hv' : Shut (WCells (wr.drewN nq) (w.heap.size + 1 + 1 + 1) [v]) := ⟨hv.out⟩
              have hown' : (wr.drewN nq).ownsRow (w.heap.size + 4) 36 3 v ys.length (fcs ys) := hown
              have hb' : Below w.heap.size w (wr.drewN nq) := hb.trans ⟨rfl, rfl, rfl, Nat.le_refl _, fun _ _ => rfl⟩
              have d0' : (wr.drewN nq).cell? ⟨b, off + k * 3, none⟩ = some (.string f.name) := d0
              have d1' : (wr.drewN nq).cell? ⟨b, off + k * 3 + 1, none⟩ = some (.string f.text) := d1
              have d2' : (wr.drewN nq).cell? ⟨b, off + k * 3 + 2, none⟩ = some (.int .i64 f.kept) := d2
              clear hx hz hy hv hown hb d0 d1 d2 x0 p0
              generalize wr.drewN nq = wq at *
              have x0 := (hx'.out.2 0 _ rfl).1
              obtain ⟨vc, vf⟩ := hv'.out.2 0 _ rfl
              have HB : Hid (Below w.heap.size w wq) := hb'
              have hv1 : w.heap.size + 1 + 1 + 1 < wq.heap.size := hv'.out.1
              have lb1 : b < wq.heap.size := by omega
              have nv : v.ownBlock ≠ some (w.heap.size + 1 + 1 + 1) := fun e => by have := (hown'.lt _ e).1; omega
              clear hb'
              go_wp2_with fail
              go_region_law ((refine step_append_lies _ (by rfl) _ _ _ (by rfl) (w.heap.size + 4) 36 i0 _ 3 40 Try.underlying24 hi hz0 hz1 hz2 rfl (by omega) _ _ _ (by rfl) ((hown'.alloc _).drew) ⟨wq.heap.size, 0, none⟩ 1 1 [.string f.name, .string f.text, .int .i64 f.kept] (by rfl) (by rfl) (World.news_of_block (cs := #[.string f.name, .string f.text, .int .i64 f.kept]) (t := 36) (fr := (0, 0)) (heap_alloc_new wq _)) (by simp [Value.oneCell']) (by omega) (by unfold maxLen; omega) (by omega) (by simp; omega) (wq.heap.size + 1) (by simp) ?_; intro gg cap1 w1 hown1 hgrow hat hlt'; have vc1 := (cell_grown hgrow ⟨w.heap.size + 1 + 1 + 1, 0, none⟩ (by simp; omega) nv).trans ((hv'.out.alloc _).2 0 _ rfl).1; have vf1 := (frozen_grown hgrow ⟨w.heap.size + 1 + 1 + 1, 0, none⟩ (by simp; omega) nv).trans ((hv'.out.alloc _).2 0 _ rfl).2))
              all_goals go_wp2_with fail
              all_goals
                obtain ⟨u1, u2, u3, u4⟩ := var_grow hv'.out (show w.heap.size + 1 + 1 + 1 < w.heap.size + 4 by omega) hown' hgrow hown1
                refine ⟨⟨k + 1, _, by go_num, by omega, ⟨u1 _ _ (by omega) (by omega) hx'.out⟩, ⟨u1 _ _ (by omega) (by omega) hz'.out⟩, ⟨u1 _ _ (by omega) (by omega) hy'.out⟩, ⟨u2⟩, ?_, u4 _ _ (by omega) HB.out⟩, by simp [intOf]; omega⟩
                rw [HST.out, ← List.append_assoc, ← HYS.out, fcs_snoc, List.length_append]
                exact u3
        · have e : k = fs.length := by omega
          subst e
          rw [List.take_length] at hown
          obtain ⟨va2, vcap2, rfl⟩ := own_form hown
          obtain ⟨vc, vf⟩ := hv.out.2 0 _ rfl
          obtain ⟨yc, yf⟩ := hy.out.2 0 _ rfl
          go_wp2_with fail
          show bodyPost Try.prog Try.f24 _ Exit.ret _ _
          refine bodyPost_ret (v := .agg #[.slice va2 (lessF p fs ++ [p] ++ moreF p fs).length vcap2]) (by simp [results, Try.results24, go_sem, yc]) rfl ⟨_, rfl, ?_, hb.setCell (by simp; omega) _⟩
          exact own_wider (own_other hown (show w.heap.size + 1 + 1 < w.heap.size + 4 by omega) _ rfl _ rfl) (by omega)
end Go.Proofs.Ytonffkdlnhjjfaa
