/- Texts of ours, laid one behind the other: HsA, LawPl, Draw, DrawB, DrawP, SpQ, SpS, HeE, DrSd, ApRow. -/
import Derived.Test.YtoaifodmjkhiiaaPy5
import Derived.PlainAid
import Derived.Deep.QuietTactic
import Derived.BigQuiet
import Derived.Deep.RegionHeld3
import Derived.Deep.DrawnRows
import Derived.OwnWalk
import Derived.OpenShut
import Derived.Deep.Upon
/- HsA: Rows of hosts in the laws: sizes, copies, two that are the same. -/
namespace Go.Proofs.Ytoaifodmjkhiiaa
set_option maxRecDepth 100000
open Go.RowKit BigFrame
attribute [local go_sem ↓] Go.wp_at_zero Go.wp_at_succ

set_option maxRecDepth 100000 in
set_option maxHeartbeats 1000000 in
theorem szHostS_any (a : Option Addr) (rs : List HoR) (cap : Nat) (left : Int) (w : World) (hr : HsRow w a rs) (hf : HsFits (hms rs)) (h0 : 0 ≤ left) (h1 : left ≤ 1048576) :
    Calls Try.prog 11 #[.slice a rs.length cap, .int .i64 left] w fun e w' => SzPostUn left (rs.length + hsSum (hms rs)) w e w' := by
  obtain ⟨n, hn⟩ : ∃ n, n = rs.length := ⟨_, rfl⟩
  have HN := Shut.mk hn
  have hl : n ≤ 9223372036854775807 := by rw [hn, ← hms_len]; exact hf.1
  rw [← hn]
  clear hn
  by_cases c1 : left - n < 0
  · clear hr hf
    go_enter Try.func11, Try.ntmps11
    go_wp2_with fail
    go_ret
    exact ⟨-1, rfl, by omega, by omega, Below.refl _ _⟩
  · have HR := Shut.mk hr
    have HF := Shut.mk hf
    have HML : Shut ((hms rs).length = n) := ⟨by rw [hms_len, HN.out]⟩
    clear hr hf
    go_enter Try.func11, Try.ntmps11
    go_wp2_with fail
    go_loopw [1, 5] (fun v i wr => ∃ (k : Nat) (l : Int), v = .int .i64 l ∧ i = .int .i64 k ∧ k ≤ n ∧ 0 ≤ l ∧ Shut (l + n + hsSum ((hms rs).take k) = left) ∧ Shut (Below w.heap.size w wr)) (fun _ i _ => n - (intOf i).toNat)
    case atStart => exact ⟨0, left - n, rfl, rfl, Nat.zero_le _, by omega, ⟨by simp [hsSum]⟩, ⟨Below.refl _ _⟩⟩
    case round =>
      obtain ⟨k, l, rfl, rfl, hk, hl0, HS, HB⟩ := hrel
      by_cases hlt : k < n
      · have hkr : k < rs.length := by rw [← HN.out]; exact hlt
        obtain ⟨b, off, r, rfl, hre, lb, hc⟩ := hs_at HR.out HB.out hkr
        obtain ⟨d0, d1, d2, d3⟩ := hc wr (Below.refl _ _)
        have hme : (hms rs)[k]'(by rw [hms_len]; exact hkr) = r.h := by rw [hre]; simp [hms]
        have HST : Shut (hsSum ((hms rs).take (k + 1)) = hsSum ((hms rs).take k) + (r.h.us.length + unSum r.h.us)) := ⟨by have := hsSum_take (hms rs) k (by rw [hms_len]; exact hkr); rw [hme] at this; exact this⟩
        have hl1 : l ≤ 1048576 := by have := HS.out; omega
        have HSZ := Shut.mk (fun W (hW : Below wr.heap.size wr W) => szHost_any r.h r.loc r.cap l W (d3.stays hW) (HF.out.2 r.h (by rw [← hme]; exact List.getElem_mem _)).1 hl0 hl1)
        obtain ⟨H, rl, rc⟩ := r
        obtain ⟨hid, hup, hus⟩ := H
        dsimp only [hov] at *
        obtain ⟨m, hm⟩ : ∃ m, m = hus.length := ⟨_, rfl⟩
        rw [← hm] at d2 HSZ HST
        have k0 : (0 : Int) ≤ (k : Int) := by omega
        have k1 : (k : Int) < (n : Int) := by omega
        clear hc hre hme d3 hm
        go_wp2_with fail
        refine (HSZ.out _ (Below.refl _ _)).mono ?_
        rintro e w2 ⟨r, rfl, hr1, hr2, hb2⟩
        have HB2 := Shut.mk (HB.out.trans (hb2.mono HB.out.size))
        clear hb2
        by_cases hr : r < 0
        · go_wp2_with fail
          go_ret
          exact ⟨-1, rfl, by omega, by omega, HB2.out⟩
        · have HS2 : Shut (r + n + hsSum ((hms rs).take (k + 1)) = left) := ⟨by have h1 := hr2 (by omega); have h2 := HS.out; rw [HST.out]; push_cast at h1 ⊢; omega⟩
          clear hr2
          go_wp2_with fail
          go_roundw
          case rel => exact ⟨k + 1, r, rfl, by go_num, by omega, by omega, HS2, HB2⟩
          case measure => simp [intOf]; omega
      · obtain rfl : n = k := by omega
        have HE : Shut (l + (n + hsSum (hms rs) : Nat) = left) := ⟨by have h := HS.out; rw [List.take_of_length_le (by rw [HML.out]; exact Nat.le_refl _)] at h; push_cast; omega⟩
        go_wp2_with fail
        go_ret
        exact ⟨l, rfl, by omega, fun _ => HE.out, HB.out⟩
theorem infoHost : (Try.prog.info? 29).map (fun i => (i.zero, i.size, i.bytes)) = some (some (.agg #[.int .i64 0, .bool false, .slice none 0 0]), 3, 40) := by kernel_rfl
set_option maxRecDepth 100000 in
set_option maxHeartbeats 4000000 in
theorem toHostS_any (a : Option Addr) (rs : List HoR) (cap : Nat) (w : World) (hm : HsRow w a rs) (hl : rs.length ≤ 1048576) (hp : ∀ r ∈ rs, r.h.us.length ≤ 1048576) :
    Calls Try.prog 13 #[.slice a rs.length cap] w fun e w' => HsPost (hms rs) w e w' := by
  obtain ⟨i0, hi, hz0, hz1, hz2⟩ := info_parts infoHost
  have HR := Shut.mk (And.intro hm hp)
  obtain ⟨n, hn⟩ : ∃ n, n = rs.length := ⟨_, rfl⟩
  have HN := Shut.mk hn
  rw [← hn] at hl ⊢
  clear hm hp hn
  go_enter Try.func13, Try.ntmps13
  go_wp2_with (at_make; refine wpList_make_full _ rfl _ _ 38 rfl w.heap.size 29 i0 _ 3 Try.underlying38 hi hz0 hz1 .i64 .i64 _ _ n rfl rfl (by omega) (by omega) ?b2 ?b3 ?b4 ?_)
  case b2 => rw [hz2]; omega
  case b3 => unfold maxLen; omega
  case b4 => omega
  intro wm hownm hgrm
  have hbm : Below w.heap.size w wm := (Below.refl _ _).grown hgrm (Nat.le_refl _) (fun j hj => by simp at hj)
  have hrow : WCells wm w.heap.size (hS (List.replicate n default)) := by
    have h := own_wcells hownm
    have e : (madeCells #[.int .i64 0, .bool false, .slice none 0 0] (n * 3)).toList = hS (List.replicate n default) := made_flat hC_len (by decide) #[.int .i64 0, .bool false, .slice none 0 0] default rfl _
    rw [e] at h; exact h
  have HTW : Shut (GW HK wm w.heap.size (List.replicate n default) w.heap.size wm.heap.size ∧ ∀ r ∈ List.replicate n (default : HoR), r.h.us.length ≤ r.cap) := ⟨⟨⟨hrow, Nat.le_refl _, hrow.1, fun r hr => .inl (by rw [List.eq_of_mem_replicate hr]; rfl), List.pairwise_iff_getElem.2 (fun i j hi hj _ h1 => absurd (by simp only [List.getElem_replicate]; rfl) h1)⟩, fun r hr => by rw [List.eq_of_mem_replicate hr]; exact Nat.le_refl _⟩⟩
  have HBM := Shut.mk hbm
  clear hownm hgrm hrow hbm
  go_wp2_with fail
  go_loopw [4] (fun i wr => ∃ (k : Nat) (gs : List HoR), i = .int .i64 k ∧ k ≤ n ∧ Shut (gs.length = n ∧ hms (gs.take k) = hms (rs.take k)) ∧ Shut (GW HK wr w.heap.size gs w.heap.size wr.heap.size ∧ ∀ r ∈ gs, r.h.us.length ≤ r.cap) ∧ Shut (Below w.heap.size w wr)) (fun i _ => n - (intOf i).toNat)
  case atStart => exact ⟨0, _, rfl, by omega, ⟨by simp, by simp⟩, HTW, HBM⟩
  case round =>
    clear HTW HBM
    obtain ⟨k, gs, rfl, hk, HG, hw, hb⟩ := hrel
    by_cases hlt : k < n
    · have hlr : k < rs.length := by have := HN.out; omega
      obtain ⟨b, off, r, rfl, hre, lb, hc⟩ := hs_at HR.out.1 hb.out hlr
      obtain ⟨d0, d1, d2, d3⟩ := hc wr (Below.refl _ _)
      have HRE : Shut (r = rs[k]) := ⟨hre⟩
      have HTO := Shut.mk (fun W (hW : Below wr.heap.size wr W) => toHost_any r.h r.loc r.cap W (d3.stays hW) (by rw [hre]; exact HR.out.2 _ (List.getElem_mem hlr)))
      unfold HoPost at HTO
      obtain ⟨H, rl, rc⟩ := r
      dsimp only [hov] at *
      obtain ⟨m, hm⟩ : ∃ m, m = H.us.length := ⟨_, rfl⟩
      rw [← hm] at d2 HTO
      have HM := Shut.mk hm
      have k0 : (0 : Int) ≤ (k : Int) := by omega
      have k1 : (k : Int) < (n : Int) := by omega
      clear hc hre d3 hm
      go_wp2_with fail
      refine (HTO.out _ (Below.refl _ _)).mono ?_
      rintro e w2 ⟨a', c', rfl, hF, hc', hb2⟩
      have hgk : k < gs.length := by have := HG.out.1; omega
      have HC := Shut.mk ((hw.out.1.host hb2 k hgk H a' c' hF hb.out.size).wide (Nat.le_refl _) (Nat.le_of_eq (setW_sz w2 w.heap.size (k * 3) (hC ⟨H, a', c'⟩)).symm))
      have HWO := Shut.mk (hw.out.1.out.below hb2 hw.out.1.out.1)
      have HB3 := Shut.mk (below_setW (hb.out.trans (hb2.mono hb.out.size)) (Nat.le_refl _) (k * 3) (hC ⟨H, a', c'⟩))
      have HCP : Shut (∀ r ∈ gs.set k ⟨H, a', c'⟩, r.h.us.length ≤ r.cap) := ⟨fun r hr => by
        rcases List.mem_or_eq_of_mem_set hr with q | rfl
        · exact hw.out.2 r q
        · show H.us.length ≤ c'; have := HM.out; omega⟩
      unfold hC at HC HB3
      dsimp only at HC HB3
      rw [setW3, ← HM.out] at HC HB3
      clear hw hb hb2 hF d0 d1 d2
      obtain ⟨c0, z0⟩ := HWO.out.2 (k * 3) _ (flat_get hC_len gs k hgk 0 (by omega))
      obtain ⟨c1, z1⟩ := HWO.out.2 (k * 3 + 1) _ (flat_get hC_len gs k hgk 1 (by omega))
      obtain ⟨c2, z2⟩ := HWO.out.2 (k * 3 + 2) _ (flat_get hC_len gs k hgk 2 (by omega))
      clear HWO
      go_wp2_with fail
      go_roundw
      case rel =>
        refine ⟨k + 1, gs.set k ⟨H, a', c'⟩, by go_num, by omega, ⟨by rw [List.length_set]; exact HG.out.1, ?_⟩, ⟨HC.out, HCP.out⟩, HB3⟩
        rw [List.take_succ_eq_append_getElem (by rw [List.length_set]; exact hgk), List.take_succ_eq_append_getElem hlr, List.take_set_of_le (Nat.le_refl _)]
        have e1 := HG.out.2
        unfold hms at e1 ⊢
        rw [List.map_append, List.map_append, e1, List.getElem_set_self, ← HRE.out]
        rfl
      case measure => simp [intOf]; omega
    · have e : hms gs = hms rs := by
        have h := HG.out.2
        rw [List.take_of_length_le (by have := HG.out.1; omega), List.take_of_length_le (by have := HN.out; omega)] at h; exact h
      have HE := Shut.mk e
      have HGL := Shut.mk HG.out.1
      clear e HG
      go_wp2_with fail
      go_ret
      exact ⟨_, n, gs, by rw [HGL.out]; rfl, HE.out, ⟨hw.out.2, .inr ⟨_, rfl, hw.out.1⟩⟩, Nat.le_of_eq HGL.out, hb.out⟩
set_option maxRecDepth 100000 in
set_option maxHeartbeats 2000000 in
theorem eqHostS_same (a b : Option Addr) (ra rb : List HoR) (ca cb : Nat) (w : World) (ha : HsRow w a ra) (hb : HsRow w b rb) (he : hms ra = hms rb) (hl : ra.length ≤ 9000000) (hp : ∀ r ∈ ra, r.h.us.length ≤ 9000000) :
    Calls Try.prog 16 #[.slice a ra.length ca, .slice b rb.length cb] w fun e w' => e = .returned (.bool true) ∧ Below w.heap.size w w' := by
  have hlen : rb.length = ra.length := by rw [← hms_len ra, ← hms_len rb, he]
  obtain ⟨n, hn⟩ : ∃ n, n = ra.length := ⟨_, rfl⟩
  have HN := Shut.mk (And.intro hn (hlen.trans hn.symm))
  rw [hlen, ← hn]
  rw [← hn] at hl
  have HA := Shut.mk ha
  have HB := Shut.mk hb
  have HE := Shut.mk (And.intro he hp)
  clear ha hb he hp hlen hn
  go_enter Try.func16, Try.ntmps16
  go_wp2_with fail
  go_loopw [5] (fun i wr => ∃ (k : Nat), i = .int .i64 k ∧ k ≤ n ∧ Shut (Below w.heap.size w wr)) (fun i _ => n - (intOf i).toNat)
  case atStart => exact ⟨0, rfl, Nat.zero_le _, ⟨Below.refl _ _⟩⟩
  case round =>
    obtain ⟨k, rfl, hk, HW⟩ := hrel
    by_cases hlt : k < n
    · have hka : k < ra.length := by have := HN.out.1; omega
      have hkb : k < rb.length := by have := HN.out.2; omega
      obtain ⟨b1, o1, r1, rfl, hr1, l1, hc1⟩ := hs_at HA.out HW.out hka
      obtain ⟨b2, o2, r2, rfl, hr2, l2, hc2⟩ := hs_at HB.out HW.out hkb
      have hsame : r1.h = r2.h := by
        have q : (hms ra)[k]'(by rw [hms_len]; exact hka) = (hms rb)[k]'(by rw [hms_len]; exact hkb) := by simp only [HE.out.1]
        simp only [hms, List.getElem_map] at q
        rw [hr1, hr2]
        exact q
      have hpl : r1.h.us.length ≤ 9000000 := by rw [hr1]; exact HE.out.2 _ (List.getElem_mem hka)
      have HC1 := Shut.mk hc1
      have HC2 := Shut.mk hc2
      clear hr1 hr2 hc1 hc2
      obtain ⟨H, rl1, rc1⟩ := r1
      obtain ⟨H2, rl2, rc2⟩ := r2
      dsimp only at hsame hpl HC1 HC2
      subst hsame
      have HEQ := Shut.mk (fun (x : World) (hx : Below wr.heap.size wr x) => eqHost_same H rl1 rl2 rc1 rc2 x (HC1.out x hx).2.2.2 (HC2.out x hx).2.2.2 hpl)
      obtain ⟨hid, hup, hus⟩ := H
      dsimp only [hov] at *
      obtain ⟨m, hm⟩ : ∃ m, m = hus.length := ⟨_, rfl⟩
      rw [← hm] at HEQ HC1 HC2
      have k0 : (0 : Int) ≤ (k : Int) := by omega
      have k1 : (k : Int) < (n : Int) := by omega
      clear hm hpl
      have p0 : ∀ X : Grow wr, X.val.cell? ⟨b1, o1 + k * 3, none⟩ = some (.int .i64 hid) := fun X => (HC1.out X.val X.bel).1
      have p1 : ∀ X : Grow wr, X.val.cell? ⟨b1, o1 + k * 3 + 1, none⟩ = some (.bool hup) := fun X => (HC1.out X.val X.bel).2.1
      have p2 : ∀ X : Grow wr, X.val.cell? ⟨b1, o1 + k * 3 + 2, none⟩ = some (.slice rl1 m rc1) := fun X => (HC1.out X.val X.bel).2.2.1
      have q0 : ∀ X : Grow wr, X.val.cell? ⟨b2, o2 + k * 3, none⟩ = some (.int .i64 hid) := fun X => (HC2.out X.val X.bel).1
      have q1 : ∀ X : Grow wr, X.val.cell? ⟨b2, o2 + k * 3 + 1, none⟩ = some (.bool hup) := fun X => (HC2.out X.val X.bel).2.1
      have q2 : ∀ X : Grow wr, X.val.cell? ⟨b2, o2 + k * 3 + 2, none⟩ = some (.slice rl2 m rc2) := fun X => (HC2.out X.val X.bel).2.2.1
      have HKQ := Shut.mk (fun X => calls_grow (w := wr) (fun W' (hb : Below wr.heap.size wr W') => HEQ.out W' hb) X)
      have HGR : Shut (∀ X : Grow wr, Below w.heap.size w X.val) := ⟨fun X => HW.out.trans (X.bel.mono HW.out.size)⟩
      go_wp2_with fail
      refine wp_region_grow (by kernel_rfl) (by kernel_rfl) ?_
      repeat (go_big_quiet_step (first | (go_at_call 10; with_reducible exact HKQ.out _)))
      refine wpQuiet_nil ?_
      rintro _ ⟨X, rfl⟩
      clear p0 p1 p2 q0 q1 q2
      go_wp2_with fail
      go_roundw
      case rel => exact ⟨k + 1, by go_num, by omega, ⟨HGR.out X⟩⟩
      case measure => simp [intOf]; omega
    · obtain rfl : n = k := by omega
      go_wp2_with fail
      go_ret
      exact ⟨rfl, HW.out⟩
end Go.Proofs.Ytoaifodmjkhiiaa
/- LawPl: The exact law of LoadOf (written by gen/mklawpl.py). -/
namespace Go.Proofs.Ytoaifodmjkhiiaa
set_option maxRecDepth 100000
open Go.RowKit BigFrame
attribute [local go_sem ↓] Go.wp_at_zero Go.wp_at_succ
theorem specLoadOf (H : HM) (a : Option Addr) (cap : Nat) (w : World) : Calls Try.prog 7 #[hov H a cap] w fun e w' => e = .returned (.int .i64 (H.us.length : Nat)) ∧ Below w.heap.size w w' := by
  obtain ⟨id, up, us⟩ := H
  dsimp only [hov]
  generalize us.length = n
  go_enter Try.func7, Try.ntmps7
  go_wp2_with fail
  go_ret
  exact ⟨rfl, (Below.refl _ _).alloc (Nat.le_refl _) _⟩
set_option maxRecDepth 100000 in
set_option maxHeartbeats 8000000 in
theorem lawLoadOf (H : HM) (a : Option Addr) (cap : Nat) (ok : Int) (w : World) (hr : UnRow w a H.us) (hf : UnFits H.us)
    (hsp : H.us.length ≤ 1048576 → unSum H.us ≤ 1048576 → ∀ (W : World) (b : Option Addr) (c : Nat), UnRow W b H.us → Calls Try.prog 7 #[hov H b c] W fun e w' => e = .returned (.int .i64 ok) ∧ Below W.heap.size W w')
    (him : H.us.length ≤ 1048576 → unSum H.us ≤ 1048576 → ∀ (W : World) (b : Option Addr) (c : Nat), UnRow W b H.us → Below w.heap.size w W → Calls Try.prog 9 #[hov H b c] W fun e w' => e = .returned (.int .i64 ok) ∧ Below W.heap.size W w') :
    Calls Try.prog 3 #[hov H a cap] w fun e w' => e = .returned (.bool true) ∧ Below w.heap.size w w' := by
  have HSZ := Shut.mk (fun (W : World) (hb : Below w.heap.size w W) => szHost_any H a cap 1048576 W (hr.stays hb) hf (by omega) (by omega))
  have HTO := Shut.mk (fun (hl : H.us.length ≤ 1048576) (W : World) (hb : Below w.heap.size w W) => toHost_any H a cap W (hr.stays hb) hl)
  have HSP := Shut.mk hsp
  have HIM := Shut.mk him
  have HEQ := Shut.mk (fun (hl : H.us.length ≤ 1048576) (W : World) (b c : Option Addr) (cb cc : Nat) (h1 : UnRow W b H.us) (h2 : UnRow W c H.us) => eqHost_same H b c cb cc W h1 h2 (by omega))
  unfold HoPost at HTO
  obtain ⟨id, up, us⟩ := H
  dsimp only [hov] at *
  obtain ⟨n, hn⟩ : ∃ n, n = us.length := ⟨_, rfl⟩
  rw [← hn] at HSZ HTO HSP HIM HEQ ⊢
  clear hr hf hsp him hn
  have HS0 := Shut.mk ((SL.start w).new #[.int .i64 id, .bool up, .slice a n cap] 24)
  have hdd : (ok != ok) = false := by simp
  go_enter Try.func3, Try.ntmps3
  go_upto_region 2 with fail
  refine wp_shade (fun W => SL w W [bxS w.heap.size [.int .i64 id, .bool up, .slice a n cap]]) HS0.out ?_
  intro W0 hS0
  have H := Shut.mk hS0
  clear hS0 HS0
  have x0 := (H.out.bx 0 rfl 0 _ rfl).1
  have x1 := (H.out.bx 0 rfl 1 _ rfl).1
  have x2 := (H.out.bx 0 rfl 2 _ rfl).1
  go_upto_region 3 with (go_at_call 6; refine (HSZ.out _ H.out.bel).mono ?_; rintro e w1 ⟨r, rfl, r0, r1, hb⟩; replace H := Shut.mk (H.out.below hb); clear hb x0 x1 x2)
  by_cases hq : r < 0
  · clear r1
    go_wp2_with fail
    go_ret
    exact ⟨rfl, H.out.bel⟩
  have hr1 := r1 (by omega)
  have hnl : n ≤ 1048576 := by omega
  replace HTO := Shut.mk (HTO.out (by omega))
  replace HSP := Shut.mk (HSP.out (by omega) (by omega))
  replace HIM := Shut.mk (HIM.out (by omega) (by omega))
  replace HEQ := Shut.mk (HEQ.out (by omega))
  clear r1 hr1 r0 HSZ
  have x0 := (H.out.bx 0 rfl 0 _ rfl).1
  have x1 := (H.out.bx 0 rfl 1 _ rfl).1
  have x2 := (H.out.bx 0 rfl 2 _ rfl).1
  go_upto_region 6 with (first
    | (go_at_call 8; refine (HTO.out _ H.out.bel).mono ?_; rintro e w2 ⟨aw2, cw2, rfl, hF, hc, hb⟩; replace H := Shut.mk (H.out.below hb); have HW := Shut.mk hF.crow; clear hb hF hc x0 x1 x2)
    | (go_at_call 7; refine (HSP.out _ _ _ HW.out).mono ?_; rintro e w3 ⟨rfl, hb⟩; replace H := Shut.mk (H.out.below hb); clear hb HW))
  have x0 := (H.out.bx 0 rfl 0 _ rfl).1
  have x1 := (H.out.bx 0 rfl 1 _ rfl).1
  have x2 := (H.out.bx 0 rfl 2 _ rfl).1
  go_upto_region 7 with (go_at_call 8; refine (HTO.out _ H.out.bel).mono ?_; rintro e w5 ⟨a5, c5, rfl, hF, hc5, hb⟩; have HS5 := Shut.mk (H.out.add (s := rwS a5 (unS us) _ w5.heap.size) hb hF (rwS.loc _ _ _ _) (Nat.le_refl _) (Nat.le_refl _)); clear hb hF x0 x1 x2 H)
  generalize w3.heap.size = l5 at HS5
  obtain ⟨h5, hh5⟩ : ∃ q, q = w5.heap.size := ⟨_, rfl⟩
  rw [← hh5] at HS5
  clear hh5
  obtain ⟨b5, hb5⟩ : ∃ q, q = w5.heap.size := ⟨_, rfl⟩
  refine wp_shade (fun W => SL w W [bxS b5 [.int .i64 id, .bool up, .slice a5 n c5], rwS a5 (unS us) l5 h5, bxS w.heap.size [.int .i64 id, .bool up, .slice a n cap]]) (by rw [hb5]; exact HS5.out.new _ _) ?_
  intro Wb5 hS
  have H := Shut.mk hS
  rw [← hb5]
  clear hS hb5 HS5
  have x0 := (H.out.bx 0 rfl 0 _ rfl).1
  have x1 := (H.out.bx 0 rfl 1 _ rfl).1
  have x2 := (H.out.bx 0 rfl 2 _ rfl).1
  go_upto_region 10 with (go_at_call 9; refine (HIM.out _ _ _ (show FRw _ _ _ _ _ from H.out.at 1 rfl).crow H.out.bel).mono ?_; rintro e w7 ⟨rfl, hb⟩; replace H := Shut.mk (H.out.below hb); clear hb x0 x1 x2)
  have HTX : Shut (∀ x, Later w7.drew x → SL w x [bxS b5 [.int .i64 id, .bool up, .slice a5 n c5], rwS a5 (unS us) l5 h5, bxS w.heap.size [.int .i64 id, .bool up, .slice a n cap]]) := ⟨fun x hx => H.out.below (Below.trans (Below.drew (Below.refl _ _)) hx)⟩
  have HLE : Shut (∀ x, Later w7.drew x → x.cell? ⟨b5, 0, none⟩ = some (.int .i64 id) ∧ x.cell? ⟨b5, 1, none⟩ = some (.bool up) ∧ x.cell? ⟨b5, 2, none⟩ = some (.slice a5 n c5) ∧ x.cell? ⟨w.heap.size, 0, none⟩ = some (.int .i64 id) ∧ x.cell? ⟨w.heap.size, 1, none⟩ = some (.bool up) ∧ x.cell? ⟨w.heap.size, 2, none⟩ = some (.slice a n cap)) := ⟨fun x hx => ⟨((HTX.out x hx).bx 0 rfl 0 _ rfl).1, ((HTX.out x hx).bx 0 rfl 1 _ rfl).1, ((HTX.out x hx).bx 0 rfl 2 _ rfl).1, ((HTX.out x hx).bx 2 rfl 0 _ rfl).1, ((HTX.out x hx).bx 2 rfl 1 _ rfl).1, ((HTX.out x hx).bx 2 rfl 2 _ rfl).1⟩⟩
  refine wp_region_set (fun _ => false) (by kernel_rfl) ?_
  refine wpD_val (i := 0) (v := ?v0) rfl (by kernel_rfl) (by kernel_rfl) (by kernel_rfl) (by kernel_rfl) (fun _ _ _ h => h) (by rfl) ?hy0 ?rest0
  case hy0 => (intro x hx; obtain ⟨d0, d1, d2, d3, d4, d5⟩ := HLE.out x hx; go_simp; try with_reducible rfl)
  try simp only [Act.put, List.setIfInBounds_toArray, List.set_cons_zero, List.set_cons_succ]
  refine wpD_val (i := 1) (v := ?v1) rfl (by kernel_rfl) (by kernel_rfl) (by kernel_rfl) (by kernel_rfl) (fun _ _ _ h => h) (by rfl) ?hy1 ?rest1
  case hy1 => (intro x hx; obtain ⟨d0, d1, d2, d3, d4, d5⟩ := HLE.out x hx; go_simp; try with_reducible rfl)
  try simp only [Act.put, List.setIfInBounds_toArray, List.set_cons_zero, List.set_cons_succ]
  refine wpD_onecall (f := 8) (args := #[.agg #[.int .i64 id, .bool up, .slice a n cap]]) (i := 2) (by kernel_rfl) rfl (by rfl) (fun x hx => by go_simp) (fun x hx => (HTO.out x (HTX.out x hx).bel).mono ?_)
  rintro e y ⟨a6, c6, rfl, hF, hc, hby⟩
  refine ⟨_, rfl, hby, ?_⟩
  have HT1 := Shut.mk ((HTX.out x hx).below hby)
  have HW := Shut.mk hF.crow
  clear hF hc hby hx
  try simp only [Act.put, List.setIfInBounds_toArray, List.set_cons_zero, List.set_cons_succ]
  refine wpD_onecall (f := 10) (args := #[.agg #[.int .i64 id, .bool up, .slice a5 n c5], .agg #[.int .i64 id, .bool up, .slice a6 n c6]]) (i := 3) (by kernel_rfl) rfl (by rfl) (fun x hx => by go_simp) (fun x hx => (HEQ.out x _ _ _ _ (show FRw _ _ _ _ _ from (HT1.out.below hx).at 1 rfl).crow (HW.out.stays hx)).mono ?_)
  rintro e y2 ⟨rfl, hby⟩
  refine ⟨_, rfl, hby, ?_⟩
  have HT2 := Shut.mk ((HT1.out.below hx).below hby)
  clear hby hx HT1 HW
  try simp only [Act.put, List.setIfInBounds_toArray, List.set_cons_zero, List.set_cons_succ]
  refine wpD_val (i := 4) (v := ?v4) rfl (by kernel_rfl) (by kernel_rfl) (by kernel_rfl) (by kernel_rfl) (fun _ _ _ h => h) (by rfl) ?hy4 ?rest4
  case hy4 => (intro x hx; go_simp; try with_reducible rfl)
  try simp only [Act.put, List.setIfInBounds_toArray, List.set_cons_zero, List.set_cons_succ]
  refine wpD_done (by kernel_rfl) ?_ _
  intro W6 hy6
  replace H := Shut.mk (HT2.out.below hy6)
  clear hy6 HT2 HTX HLE
  go_wp2_with fail
  go_ret
  exact ⟨rfl, H.out.bel⟩
end Go.Proofs.Ytoaifodmjkhiiaa
/- Draw: The draws of the models: a cursor over the bytes of a code. What is drawn lies within its bounds; nothing but the cursor's own block is turned. -/
namespace Go.Proofs.Ytoaifodmjkhiiaa
set_option maxRecDepth 100000
open Go.RowKit
attribute [local go_sem ↓] Go.wp_at_zero Go.wp_at_succ

/-- The code that is drawn from: a slice of bytes that came in, below block B. -/
def CodeAt (w : World) (B : Nat) (a : Option Addr) (len : Nat) : Prop :=
  len ≤ 1048576 ∧ (0 < len → ∃ b off, a = some ⟨b, off, none⟩ ∧ b < B ∧ ∀ j, j < len → ∃ x : Int, w.cell? ⟨b, off + j, none⟩ = some (.int .u8 x) ∧ 0 ≤ x ∧ x ≤ 255)
/-- The cursor in block g. -/
def Cur (w : World) (g B : Nat) (a : Option Addr) (len cap : Nat) : Prop :=
  B ≤ g ∧ g < w.heap.size ∧ CodeAt w B a len ∧ w.cell? ⟨g, 0, none⟩ = some (.slice a len cap) ∧
  (∃ i : Nat, w.cell? ⟨g, 1, none⟩ = some (.int .i64 i) ∧ i ≤ len) ∧ (∃ h : Int, w.cell? ⟨g, 2, none⟩ = some (.int .i64 h)) ∧
  (∀ j, j < 3 → w.frozen? ⟨g, j, none⟩ = false)
def BytePost (w : World) (g B : Nat) (a : Option Addr) (len cap : Nat) (e : Ending) (w' : World) : Prop :=
  ∃ x : Int, e = .returned (.int .i64 x) ∧ 0 ≤ x ∧ x ≤ 255 ∧ Cur w' g B a len cap ∧ w.grownBy w' (some g)

theorem and255 (n : Int) : 0 ≤ bits .and .i64 n 255 ∧ bits .and .i64 n 255 ≤ 255 := by
  have h255 : (BitVec.ofInt 64 255).toNat = 2 ^ 8 - 1 := by decide
  have key : (BitVec.ofInt 64 n &&& BitVec.ofInt 64 255).toNat = (n % ((2 ^ 64 : Nat) : Int)).toNat % 2 ^ 8 := by
    rw [BitVec.toNat_and, BitVec.toNat_ofInt, h255, Nat.and_two_pow_sub_one_eq_mod]
  have e : bits .and .i64 n 255 = n % 256 := by
    show IntKind.i64.wrap ((BitVec.ofInt 64 n &&& BitVec.ofInt 64 255).toNat : Nat) = n % 256
    rw [key, IntKind.wrap_i64]
    omega
  rw [e]; omega
theorem gb_set (w : World) (g i : Nat) (v : Value) : w.grownBy (w.setCell ⟨g, i, none⟩ v) (some g) :=
  ⟨rfl, rfl, rfl, by simp [World.setCell], fun k _ hk => Below.heap_setCell _ _ _ _ (fun e => hk (by rw [e]))⟩
theorem gb_drewN (w : World) (q : Nat) (row : Option Nat) : w.grownBy (w.drewN q) row := ⟨rfl, rfl, rfl, Nat.le_refl _, fun _ _ _ => rfl⟩
theorem gb_two {a b c : World} {row : Option Nat} (h : a.grownBy b row) (k : b.grownBy c row) : a.grownBy c row :=
  ⟨k.os.trans h.os, k.tape.trans h.tape, k.output.trans h.output, Nat.le_trans h.size k.size, fun i hi hn => (k.block i (Nat.lt_of_lt_of_le hi h.size) hn).trans (h.block i hi hn)⟩
theorem gb_below {w w' : World} {row : Option Nat} (h : Below w.heap.size w w') : w.grownBy w' row := ⟨h.os, h.tape, h.output, h.size, fun k hk _ => h.block k hk⟩
theorem below_gb {w w' : World} {g B : Nat} (h : w.grownBy w' (some g)) (hB : B ≤ g) (hs : B ≤ w.heap.size) : Below B w w' :=
  ⟨h.os, h.tape, h.output, h.size, fun k hk => h.block k (by omega) (by simp; omega)⟩
theorem CodeAt.gb {w w' : World} {B g len : Nat} {a : Option Addr} (h : CodeAt w B a len) (hg : w.grownBy w' (some g)) (hB : B ≤ g) : CodeAt w' B a len := by
  refine ⟨h.1, fun hl => ?_⟩
  obtain ⟨b, off, rfl, hb, hx⟩ := h.2 hl
  refine ⟨b, off, rfl, hb, fun j hj => ?_⟩
  obtain ⟨x, hc, h0, h1⟩ := hx j hj
  exact ⟨x, hg.cell hc (by simp; omega), h0, h1⟩
theorem CodeAt.below {w w' : World} {B C len : Nat} {a : Option Addr} (h : CodeAt w B a len) (hb : Below C w w') (hC : B ≤ C) : CodeAt w' B a len := by
  refine ⟨h.1, fun hl => ?_⟩
  obtain ⟨b, off, rfl, hlt, hx⟩ := h.2 hl
  refine ⟨b, off, rfl, hlt, fun j hj => ?_⟩
  obtain ⟨x, hc, h0, h1⟩ := hx j hj
  exact ⟨x, (hb.cell (p := ⟨b, off + j, none⟩) (Nat.lt_of_lt_of_le hlt hC)).trans hc, h0, h1⟩
/-- New blocks, and what turns none of the cursor's: the cursor stands. -/
theorem Cur.below {w w' : World} {g B len cap : Nat} {a : Option Addr} (h : Cur w g B a len cap) (hb : Below w.heap.size w w') : Cur w' g B a len cap := by
  obtain ⟨hB, hg, hcode, c0, ⟨i, c1, hi⟩, ⟨k, c2⟩, hf⟩ := h
  exact ⟨hB, Nat.lt_of_lt_of_le hg hb.size, hcode.below hb (by omega), (hb.cell (p := ⟨g, 0, none⟩) hg).trans c0, ⟨i, (hb.cell (p := ⟨g, 1, none⟩) hg).trans c1, hi⟩, ⟨k, (hb.cell (p := ⟨g, 2, none⟩) hg).trans c2⟩,
    fun j hj => (hb.frozen (p := ⟨g, j, none⟩) hg).trans (hf j hj)⟩
theorem Cur.seth {w : World} {g B len cap : Nat} {a : Option Addr} (h : Cur w g B a len cap) (k : Int) : Cur (w.setCell ⟨g, 2, none⟩ (.int .i64 k)) g B a len cap := by
  obtain ⟨hB, hg, hcode, c0, ⟨i, c1, hi⟩, ⟨k', c2⟩, hf⟩ := h
  exact ⟨hB, by simpa [World.setCell] using hg, hcode.gb (gb_set _ _ _ _) hB, (World.cell?_setCell_other _ _ _ _ (by simp)).trans c0, ⟨i, (World.cell?_setCell_other _ _ _ _ (by simp)).trans c1, hi⟩, ⟨k, World.cell?_setCell_same _ _ _ c2⟩,
    fun j hj => (World.frozen?_setCell _ _ _ _).trans (hf j hj)⟩
theorem Cur.seti {w : World} {g B len cap : Nat} {a : Option Addr} (h : Cur w g B a len cap) (i : Nat) (hi : i ≤ len) : Cur (w.setCell ⟨g, 1, none⟩ (.int .i64 i)) g B a len cap := by
  obtain ⟨hB, hg, hcode, c0, ⟨i', c1, _⟩, ⟨k, c2⟩, hf⟩ := h
  exact ⟨hB, by simpa [World.setCell] using hg, hcode.gb (gb_set _ _ _ _) hB, (World.cell?_setCell_other _ _ _ _ (by simp)).trans c0, ⟨i, World.cell?_setCell_same _ _ _ c1, hi⟩, ⟨k, (World.cell?_setCell_other _ _ _ _ (by simp)).trans c2⟩,
    fun j hj => (World.frozen?_setCell _ _ _ _).trans (hf j hj)⟩
theorem drewN_bel (B : Nat) (w : World) (q : Nat) : Below B w (w.drewN q) := ⟨rfl, rfl, rfl, Nat.le_refl _, fun _ _ => rfl⟩
theorem byte_more {w : World} {g B len cap i : Nat} {a : Option Addr} (h : Cur w g B a len cap) (hi : i < len) (k : Int) (q : Nat) (y : Int) (hy : y = ((i + 1 : Nat) : Int)) (x : Int) (h0 : 0 ≤ x) (h1 : x ≤ 255) :
    BytePost w g B a len cap (.returned (.int .i64 x)) (((w.setCell ⟨g, 2, none⟩ (.int .i64 k)).drewN q).setCell ⟨g, 1, none⟩ (.int .i64 y)) := by
  subst hy
  exact ⟨x, rfl, h0, h1, (((h.seth k).below (drewN_bel _ _ _)).seti (i + 1) (by omega)), gb_two (gb_two (gb_set _ _ _ _) (gb_drewN _ _ _)) (gb_set _ _ _ _)⟩
theorem byte_over2 {w : World} {g B len cap : Nat} {a : Option Addr} (h : Cur w g B a len cap) (k : Int) (q q' : Nat) (x : Int) (h0 : 0 ≤ x) (h1 : x ≤ 255) :
    BytePost w g B a len cap (.returned (.int .i64 x)) (((w.setCell ⟨g, 2, none⟩ (.int .i64 k)).drewN q).drewN q') :=
  ⟨x, rfl, h0, h1, (((h.seth k).below (drewN_bel _ _ _)).below (drewN_bel _ _ _)), gb_two (gb_two (gb_set _ _ _ _) (gb_drewN _ _ _)) (gb_drewN _ _ _)⟩

set_option maxHeartbeats 1000000 in
theorem l01Byte_any (w : World) (g B : Nat) (a : Option Addr) (len cap : Nat) (hc : Cur w g B a len cap) :
    Calls Try.prog 35 #[.pointer (some ⟨g, 0, none⟩)] w fun e w' => BytePost w g B a len cap e w' := by
  have HC : Hid (Cur w g B a len cap) := hc
  obtain ⟨hB, hg, hcode, c0, ⟨i, c1, hi⟩, ⟨h, c2⟩, hf⟩ := hc
  have f1 := hf 1 (by omega)
  have f2 := hf 2 (by omega)
  have hl := hcode.1
  by_cases hlt : i < len
  · obtain ⟨b, off, rfl, hb, hcx⟩ := hcode.2 (by omega)
    obtain ⟨x, c3, x0, x1⟩ := hcx i hlt
    have i0 : (0 : Int) ≤ (i : Int) := by omega
    have i1 : (i : Int) < (len : Int) := by omega
    have hne : b ≠ g := by omega
    clear hcode hf hcx
    go_enter Try.func35, Try.ntmps35
    go_wp2_with fail
    go_quiet (fail)
    go_wp2_with fail
    go_quiet (fail)
    go_wp2_with fail
    go_quiet (fail)
    go_wp2_with fail
    go_ret
    exact byte_more HC.out hlt _ _ _ (by first | omega | (simp only [wrap64]; omega)) _ (and255 _).1 (and255 _).2
  · have i1 : decide ((i : Int) < (len : Int)) = false := by simp; omega
    clear hcode hf
    go_enter Try.func35, Try.ntmps35
    go_wp2_with fail
    go_quiet (fail)
    go_wp2_with fail
    go_quiet (fail)
    go_wp2_with fail
    go_ret
    exact byte_over2 HC.out _ _ _ _ (and255 _).1 (and255 _).2

def BelowPost (w : World) (g B : Nat) (a : Option Addr) (len cap : Nat) (n : Int) (e : Ending) (w' : World) : Prop :=
  ∃ x : Int, e = .returned (.int .i64 x) ∧ 0 ≤ x ∧ (x < n ∨ x = 0) ∧ Cur w' g B a len cap ∧ w.grownBy w' (some g)
set_option maxHeartbeats 1000000 in
theorem l01Below_any (w : World) (g B : Nat) (a : Option Addr) (len cap : Nat) (n : Int) (hn : n ≤ 9223372036854775807) (hc : Cur w g B a len cap) :
    Calls Try.prog 36 #[.pointer (some ⟨g, 0, none⟩), .int .i64 n] w fun e w' => BelowPost w g B a len cap n e w' := by
  have HC : Hid (Cur w g B a len cap) := hc
  clear hc
  by_cases h0 : n ≤ 0
  · go_enter Try.func36, Try.ntmps36
    go_wp2_with fail
    go_ret
    exact ⟨0, rfl, by omega, .inr rfl, HC.out, gb_drewN w 0 _⟩
  · by_cases h1 : n ≤ 256
    · have hnz : (n == 0) = false := by rw [beq_eq_false_iff_ne]; omega
      go_enter Try.func36, Try.ntmps36
      go_wp2_with fail
      refine (l01Byte_any _ g B a len cap HC.out).mono ?_
      rintro e w1 ⟨x, rfl, x0, x1, hc1, hg1⟩
      have HC1 : Hid (Cur w1 g B a len cap) := hc1
      have HG : Hid _ := hg1
      clear hc1 hg1
      go_wp2_with fail
      go_ret
      exact ⟨x % n, rfl, Int.emod_nonneg _ (by omega), .inl (Int.emod_lt_of_pos _ (by omega)), HC1.out, HG.out⟩
    · go_enter Try.func36, Try.ntmps36
      go_wp2_with fail
      refine (l01Byte_any _ g B a len cap HC.out).mono ?_
      rintro e w1 ⟨x, rfl, x0, x1, hc1, hg1⟩
      have HC1 : Hid (Cur w1 g B a len cap) := hc1
      have HG1 : Hid (w.grownBy w1 (some g)) := hg1
      clear hc1 hg1
      go_wp2_with fail
      refine (l01Byte_any _ g B a len cap HC1.out).mono ?_
      rintro e w2 ⟨y, rfl, y0, y1, hc2, hg2⟩
      have HC2 : Hid (Cur w2 g B a len cap) := hc2
      have HG2 : Hid (w.grownBy w2 (some g)) := gb_two HG1.out hg2
      clear hc2 hg2
      go_wp2_with fail
      refine (l01Byte_any _ g B a len cap HC2.out).mono ?_
      rintro e w3 ⟨z, rfl, z0, z1, hc3, hg3⟩
      have HC3 : Hid (Cur w3 g B a len cap) := hc3
      have HG3 : Hid (w.grownBy w3 (some g)) := gb_two HG2.out hg3
      clear hc3 hg3
      go_wp2_with fail
      refine (l01Byte_any _ g B a len cap HC3.out).mono ?_
      rintro e w4 ⟨u, rfl, u0, u1, hc4, hg4⟩
      have HC4 : Hid (Cur w4 g B a len cap) := hc4
      have HG4 : Hid (w.grownBy w4 (some g)) := gb_two HG3.out hg4
      clear hc4 hg4
      go_wp2_with fail
      go_ret
      exact ⟨(x * 16777216 + y * 65536 + z * 256 + u) % n, rfl, Int.emod_nonneg _ (by omega), .inl (Int.emod_lt_of_pos _ (by omega)), HC4.out, HG4.out⟩
end Go.Proofs.Ytoaifodmjkhiiaa
/- DrawB: The draws of the models, on: a new cursor, a text that is drawn, a long one, a choice. -/
namespace Go.Proofs.Ytoaifodmjkhiiaa
set_option maxRecDepth 100000
open Go.RowKit

def NewPost (w : World) (a : Option Addr) (len cap : Nat) (e : Ending) (w' : World) : Prop :=
  ∃ g, e = .returned (.pointer (some ⟨g, 0, none⟩)) ∧ w.heap.size ≤ g ∧ Cur w' g w.heap.size a len cap ∧ Below w.heap.size w w'
theorem new_post {w : World} {a : Option Addr} {len cap : Nat} (hc : CodeAt w w.heap.size a len) (h : Int) :
    NewPost w a len cap (.returned (.pointer (some ⟨w.heap.size, 0, none⟩))) (w.alloc (.cells #[.slice a len cap, .int .i64 0, .int .i64 h] 88)) := by
  have hb : Below w.heap.size w (w.alloc (.cells #[.slice a len cap, .int .i64 0, .int .i64 h] 88)) := (Below.refl _ _).alloc (Nat.le_refl _) _
  refine ⟨_, rfl, Nat.le_refl _, ⟨Nat.le_refl _, by simp, hc.below hb (Nat.le_refl _), ?_, ⟨0, ?_, Nat.zero_le _⟩, ⟨h, ?_⟩, fun j hj => ?_⟩, hb⟩
  · rw [World.cell?_alloc_mark]; rfl
  · rw [World.cell?_alloc_mark]; rfl
  · rw [World.cell?_alloc_mark]; rfl
  · rw [World.frozen?_alloc_mark]; simp

set_option maxRecDepth 100000 in
set_option maxHeartbeats 1000000 in
theorem l01New_any (w : World) (a : Option Addr) (len cap : Nat) (hc : CodeAt w w.heap.size a len) :
    Calls Try.prog 34 #[.slice a len cap] w fun e w' => NewPost w a len cap e w' := by
  have hl := hc.1
  go_enter Try.func34, Try.ntmps34
  go_wp2_with fail
  go_loop [3, 4] (fun h i => ∃ (k : Nat) (hh : Int), h = .int .i64 hh ∧ i = .int .i64 k ∧ k ≤ len) (fun _ i => len - (intOf i).toNat)
  case atStart => exact ⟨0, _, rfl, rfl, Nat.zero_le _⟩
  case round =>
    obtain ⟨k, hh, rfl, rfl, hk⟩ := hrel
    by_cases hlt : k < len
    · by_cases h4 : k < 4000
      · obtain ⟨b, off, rfl, hb, hx⟩ := hc.2 (by omega)
        obtain ⟨x, cx, x0, x1⟩ := hx k hlt
        have k0 : (0 : Int) ≤ (k : Int) := by omega
        have k1 : (k : Int) < (len : Int) := by omega
        clear hx
        go_wp2_with fail
        go_round
        case rel => exact ⟨k + 1, _, rfl, by go_num, by omega⟩
        case measure => simp [intOf]; omega
      · have h4' : ¬ (k : Int) < 4000 := by omega
        go_wp2_with fail
        go_ret
        exact new_post hc _
    · go_wp2_with fail
      go_ret
      exact new_post hc _

def OncePost (w : World) (g B : Nat) (a : Option Addr) (len cap : Nat) (e : Ending) (w' : World) : Prop :=
  ∃ b : Bool, e = .returned (.bool b) ∧ Cur w' g B a len cap ∧ w.grownBy w' (some g)
theorem l01Once_any (w : World) (g B : Nat) (a : Option Addr) (len cap : Nat) (n : Int) (hn : n ≤ 9223372036854775807) (hc : Cur w g B a len cap) :
    Calls Try.prog 43 #[.pointer (some ⟨g, 0, none⟩), .int .i64 n] w fun e w' => OncePost w g B a len cap e w' := by
  have HC : Hid (Cur w g B a len cap) := hc
  clear hc
  go_enter Try.func43, Try.ntmps43
  go_wp2_with fail
  refine (l01Below_any _ g B a len cap n hn HC.out).mono ?_
  rintro e w1 ⟨x, rfl, x0, x1, hc1, hg1⟩
  have HC1 : Hid (Cur w1 g B a len cap) := hc1
  have HG : Hid (w.grownBy w1 (some g)) := hg1
  clear hc1 hg1
  go_wp2_with fail
  go_ret
  exact ⟨x == 0, rfl, HC1.out, HG.out⟩

def TextPost (w : World) (g B : Nat) (a : Option Addr) (len cap : Nat) (n : Nat) (e : Ending) (w' : World) : Prop :=
  ∃ t : ByteArray, e = .returned (.string t) ∧ t.size ≤ n ∧ Cur w' g B a len cap ∧ w.grownBy w' (some g)
def TextIs (w : World) (g B : Nat) (a : Option Addr) (len cap : Nat) (n : Nat) (e : Ending) (w' : World) : Prop :=
  ∃ t : ByteArray, e = .returned (.string t) ∧ t.size = n ∧ Cur w' g B a len cap ∧ w.grownBy w' (some g)
theorem text_step {w wr w2 w3 : World} {g B len cap : Nat} {a : Option Addr} {v v' : Value} {l : List UInt8} {x : Int} {o : Obj} (x0 : 0 ≤ x) (x1 : x ≤ 255) (hs : w.heap.size ≤ wr.heap.size) (hgw : g < w.heap.size)
    (hg : w.grownBy wr (some g)) (hg2 : wr.grownBy w2 (some g)) (hc2 : Cur w2 g B a len cap) (hown : w2.ownsRow w.heap.size 5 1 v l.length (bv l))
    (hown' : w3.ownsRow w.heap.size 5 1 v' (l.length + 1) (bv l ++ [.int .u8 x])) (hgr : (w2.alloc o).grownBy w3 v.ownBlock) :
    Cur w3 g B a len cap ∧ w.grownBy w3 (some g) ∧ w3.ownsRow w.heap.size 5 1 v' (l ++ [UInt8.ofNat x.toNat]).length (bv (l ++ [UInt8.ofNat x.toNat])) := by
  have hlt := hown.lt
  have h2s : wr.heap.size ≤ w2.heap.size := hg2.size
  have hb3 : Below w.heap.size w2 w3 := ((Below.refl _ _).alloc (by omega) o).grown hgr (by simp; omega) (fun j hj => (hlt j hj).1)
  refine ⟨?_, ⟨(hb3.os.trans hg2.os).trans hg.os, (hb3.tape.trans hg2.tape).trans hg.tape, (hb3.output.trans hg2.output).trans hg.output, by have := hb3.size; omega, fun k hk hn => (hb3.block k hk).trans ((hg2.block k (by omega) hn).trans (hg.block k hk hn))⟩, ?_⟩
  · obtain ⟨hB, hgs, hcode, c0, ⟨i, c1, hi⟩, ⟨k, c2⟩, hf⟩ := hc2
    refine ⟨hB, by have := hb3.size; omega, hcode.below hb3 (by omega), (hb3.cell (p := ⟨g, 0, none⟩) hgw).trans c0, ⟨i, (hb3.cell (p := ⟨g, 1, none⟩) hgw).trans c1, hi⟩, ⟨k, (hb3.cell (p := ⟨g, 2, none⟩) hgw).trans c2⟩, fun j hj => (hb3.frozen (p := ⟨g, j, none⟩) hgw).trans (hf j hj)⟩
  · rw [byte_of x x0 (by omega), bv_snoc] at hown'
    simpa using hown'
theorem own_gb {w w' : World} {g C : Nat} {v : Value} {l : List UInt8} (h : w.ownsRow C 5 1 v l.length (bv l)) (hg : w.grownBy w' (some g)) (hC : g < C) : w'.ownsRow C 5 1 v l.length (bv l) :=
  h.kept hg (by
    cases hv : v.ownBlock with
    | none => exact .inl rfl
    | some j => right; have := (h.lt j hv).1; simp; omega)

set_option maxHeartbeats 1000000 in
theorem l01Text_len (w : World) (g B : Nat) (a : Option Addr) (len cap : Nat) (n : Nat) (hn : n ≤ 5000) (hc : Cur w g B a len cap) :
    Calls Try.prog 44 #[.pointer (some ⟨g, 0, none⟩), .int .i64 n] w fun e w' => TextIs w g B a len cap n e w' := by
  obtain ⟨i0, hi, hz0, hz1, hz2⟩ := info_parts Try.info5
  have hgw := hc.2.1
  have HC : Hid (Cur w g B a len cap) := hc
  clear hc
  have hnd : decide ((5000 : Int) < n) = false := by simp; omega
  go_enter Try.func44, Try.ntmps44
  go_wp2_with fail
  go_loopw [5, 6] (fun v i wr => ∃ (k : Nat) (l : List UInt8), i = .int .i64 k ∧ k ≤ n ∧ l.length = k ∧ Cur wr g B a len cap ∧ w.grownBy wr (some g) ∧ wr.ownsRow w.heap.size 5 1 v l.length (bv l)) (fun _ i _ => n - (intOf i).toNat)
  case atStart => exact ⟨0, [], rfl, by omega, rfl, HC.out.below ((Below.refl _ _).alloc (Nat.le_refl _) _), gb_below ((Below.refl _ _).alloc (Nat.le_refl _) _), World.ownsRow_made w #[] 0 (Nat.le_refl _) (by decide) rfl⟩
  case round =>
    obtain ⟨k, l, rfl, hk, hlk, hc1, hg1, hown⟩ := hrel
    have HC1 : Hid (Cur wr g B a len cap) := hc1
    have HG1 : Hid (w.grownBy wr (some g)) := hg1
    have HL : Hid (l.length = k) := hlk
    have hll : l.length ≤ 5000 := by omega
    have hs1 := hg1.size
    clear hc1 hg1 hlk
    by_cases hlt : k < n
    · go_wp2_with fail
      refine (l01Byte_any _ g B a len cap HC1.out).mono ?_
      rintro e w2 ⟨x, rfl, x0, x1, hc2, hg2⟩
      have HC2 : Hid (Cur w2 g B a len cap) := hc2
      have HG2 : Hid (wr.grownBy w2 (some g)) := hg2
      have hown2 := own_gb hown hg2 hgw
      have hs2 := hg2.size
      clear hc2 hg2 hown
      go_wp2_with (at_builtin; refine wpList_append_own _ rfl _ _ 45 rfl w.heap.size 5 i0 (.int .u8 0) 1 1 Try.underlying45 hi hz0 hz1 hz2 rfl (by decide) _ _ _ rfl (hown2.alloc _) ⟨w2.heap.size, 0, none⟩ 1 1 [.int .u8 _] rfl rfl (cell_one_new _ _ _) ?c2 ?c3 ?c4 ?c5 ?_)
      case c2 => first | rfl | (intro u hu; simp at hu; subst hu; rfl)
      case c3 => unfold maxLen; omega
      case c4 => omega
      case c5 => first | omega | (simp; omega)
      · intro v' w3 hown' hgrow _
        obtain ⟨q1, q2, q3⟩ := text_step x0 x1 hs1 hgw HG1.out HG2.out HC2.out hown2 hown' hgrow
        clear hown' hgrow hown2
        go_wp2_with fail
        go_roundw
        case rel => exact ⟨k + 1, _, by go_num, by omega, by have := HL.out; simp; omega, q1, q2, q3⟩
        case measure => simp [intOf]; omega
    · have hcv := own_string hown
      go_wp2_with fail
      go_ret
      exact ⟨⟨l.toArray⟩, rfl, by have := HL.out; show l.length = n; omega, HC1.out, HG1.out⟩
theorem l01Text_any (w : World) (g B : Nat) (a : Option Addr) (len cap : Nat) (n : Nat) (hn : n ≤ 5000) (hc : Cur w g B a len cap) :
    Calls Try.prog 44 #[.pointer (some ⟨g, 0, none⟩), .int .i64 n] w fun e w' => TextPost w g B a len cap n e w' :=
  (l01Text_len w g B a len cap n hn hc).mono fun _ _ ⟨t, he, hs, h⟩ => ⟨t, he, Nat.le_of_eq hs, h⟩
end Go.Proofs.Ytoaifodmjkhiiaa
/- DrawP: The draws of a text and of places: what is drawn lies within its bounds; nothing that was there is turned. -/
namespace Go.Proofs.Ytoaifodmjkhiiaa
set_option maxRecDepth 100000
open Go.RowKit

def SumDrawn (w : World) (e : Ending) (w' : World) : Prop := ∃ t : ByteArray, e = .returned (.string t) ∧ t.size ≤ 40 ∧ Below w.heap.size w w'
theorem infoInt : (Try.prog.info? 3).map (fun i => (i.zero, i.size, i.bytes)) = some (some (.int .i64 0), 1, 8) := by kernel_rfl
/-- Numbers, as the model holds them. -/
def iv (l : List Int) : List Value := l.map fun x => .int .i64 x
theorem row_step {w wr w2 w3 : World} {g B len cap n : Nat} {t : TypeId} {a : Option Addr} {v : Value} {vs : List Value} {o : Obj} (hs : w.heap.size ≤ wr.heap.size) (hgw : g < w.heap.size)
    (hg : w.grownBy wr (some g)) (hg2 : wr.grownBy w2 (some g)) (hc2 : Cur w2 g B a len cap) (hown : w2.ownsRow w.heap.size t 1 v n vs) (hgr : (w2.alloc o).grownBy w3 v.ownBlock) :
    Cur w3 g B a len cap ∧ w.grownBy w3 (some g) := by
  have hlt := hown.lt
  have h2s : wr.heap.size ≤ w2.heap.size := hg2.size
  have hb3 : Below w.heap.size w2 w3 := ((Below.refl _ _).alloc (by omega) o).grown hgr (by simp; omega) (fun j hj => (hlt j hj).1)
  refine ⟨?_, ⟨(hb3.os.trans hg2.os).trans hg.os, (hb3.tape.trans hg2.tape).trans hg.tape, (hb3.output.trans hg2.output).trans hg.output, by have := hb3.size; omega, fun k hk hn => (hb3.block k hk).trans ((hg2.block k (by omega) hn).trans (hg.block k hk hn))⟩⟩
  obtain ⟨hB, hgs, hcode, c0, ⟨i, c1, hi⟩, ⟨k, c2⟩, hf⟩ := hc2
  exact ⟨hB, by have := hb3.size; omega, hcode.below hb3 (by omega), (hb3.cell (p := ⟨g, 0, none⟩) hgw).trans c0, ⟨i, (hb3.cell (p := ⟨g, 1, none⟩) hgw).trans c1, hi⟩, ⟨k, (hb3.cell (p := ⟨g, 2, none⟩) hgw).trans c2⟩, fun j hj => (hb3.frozen (p := ⟨g, j, none⟩) hgw).trans (hf j hj)⟩
theorem own_gbr {w w' : World} {g C n : Nat} {t : TypeId} {v : Value} {vs : List Value} (h : w.ownsRow C t 1 v n vs) (hg : w.grownBy w' (some g)) (hC : g < C) : w'.ownsRow C t 1 v n vs :=
  h.kept hg (by
    cases hv : v.ownBlock with
    | none => exact .inl rfl
    | some j => right; have := (h.lt j hv).1; simp; omega)
/-- The places that are drawn: twelve numbers below 10000 in a block of their own. -/
def PlacesDrawn (w : World) (e : Ending) (w' : World) : Prop :=
  ∃ (gp cap : Nat) (l : List Int), e = .returned (.slice (some ⟨gp, 0, none⟩) 12 cap) ∧ w.heap.size ≤ gp ∧ gp < w'.heap.size ∧ l.length = 12 ∧ (∀ x ∈ l, 0 ≤ x ∧ x < 10000) ∧ (∀ j, j < 12 → w'.cell? ⟨gp, j, none⟩ = some (.int .i64 (l.getD j 0))) ∧ Below w.heap.size w w'
theorem places_post {w w1 w' : World} {g n : Nat} {v : Value} {l : List Int} (hw : w.heap.size ≤ w1.heap.size) (hl : l.length = 12) (hx : ∀ x ∈ l, 0 ≤ x ∧ x < 10000) (hn : n = 12) (hown : w'.ownsRow w1.heap.size 3 1 v n (iv l)) (hb1 : Below w.heap.size w w1) (hg : w.heap.size ≤ g) (hgb : w1.grownBy w' (some g)) :
    PlacesDrawn w (.returned v) w' := by
  subst hn
  have hlt := hown.lt
  have hc : ∀ g, v.ownBlock = some g → ∀ j u, (iv l)[j]? = some u → w'.cell? ((⟨g, 0, none⟩ : Addr).add j) = some u := fun g hg => hown.cells hg
  obtain ⟨h1, ⟨rfl, h0⟩ | ⟨gp, cap, cur, rfl, _⟩⟩ := hown
  · omega
  · have h2 := hlt gp rfl
    refine ⟨gp, cap, l, rfl, by omega, h2.2, hl, hx, fun j hj => ?_, hb1.trans (below_gb hgb hg hw)⟩
    have h3 := hc gp rfl j (.int .i64 (l.getD j 0)) (by simp [iv, List.getD, show j < l.length by omega])
    have e : (⟨gp, 0, none⟩ : Addr).add j = ⟨gp, j, none⟩ := by cases j <;> simp [Addr.add]
    rwa [e] at h3
set_option maxHeartbeats 1000000 in
theorem drawPlaces_any (w : World) (a : Option Addr) (len cap : Nat) (hc : CodeAt w w.heap.size a len) :
    Calls Try.prog 22 #[.slice a len cap] w fun e w' => PlacesDrawn w e w' := by
  obtain ⟨i0, hi, hz0, hz1, hz2⟩ := info_parts infoInt
  have HC : Hid (CodeAt w w.heap.size a len) := hc
  clear hc
  go_enter Try.func22, Try.ntmps22
  go_wp2_with fail
  refine (l01New_any _ a len cap HC.out).mono ?_
  rintro e w0 ⟨g, rfl, hg, hcur, hb0⟩
  have HC0 : Hid (Cur w0 g w.heap.size a len cap) := hcur
  have HB0 : Hid (Below w.heap.size w w0) := hb0
  clear hcur hb0
  go_wp2_with fail
  refine (l01Byte_any _ g _ a len cap HC0.out).mono ?_
  rintro e w1 ⟨x, rfl, _, _, hc1, hg1⟩
  have HC1 : Hid (Cur w1 g w.heap.size a len cap) := hc1
  have HB1 : Hid (Below w.heap.size w w1) := HB0.out.trans (below_gb hg1 hg HB0.out.size)
  have hgw : g < w1.heap.size := hc1.2.1
  clear hc1 hg1 HC0 HB0
  go_wp2_with fail
  go_loopw [4, 5] (fun v i wr => ∃ (k : Nat) (l : List Int), i = .int .i64 k ∧ k ≤ 12 ∧ l.length = k ∧ (∀ x ∈ l, 0 ≤ x ∧ x < 10000) ∧ Cur wr g w.heap.size a len cap ∧ w1.grownBy wr (some g) ∧ wr.ownsRow w1.heap.size 3 1 v k (iv l)) (fun _ i _ => 12 - (intOf i).toNat)
  case atStart => exact ⟨0, [], rfl, by omega, rfl, by simp, HC1.out.below ((Below.refl _ _).alloc (Nat.le_refl _) _), gb_below ((Below.refl _ _).alloc (Nat.le_refl _) _), World.ownsRow_made w1 #[] 0 (Nat.le_refl _) (by decide) rfl⟩
  case round =>
    obtain ⟨k, l, rfl, hk, hlk, hlx, hcr, hgr, hown⟩ := hrel
    have HCr : Hid (Cur wr g w.heap.size a len cap) := hcr
    have HGr : Hid (w1.grownBy wr (some g)) := hgr
    have HL : Hid (l.length = k ∧ ∀ x ∈ l, 0 ≤ x ∧ x < 10000) := ⟨hlk, hlx⟩
    have hs1 := hgr.size
    clear hcr hgr hlk hlx
    by_cases hlt : k < 12
    · have hlt' : (k : Int) < 12 := by omega
      go_wp2_with fail
      refine (l01Below_any _ g _ a len cap 10000 (by omega) HCr.out).mono ?_
      rintro e w2 ⟨y, rfl, y0, y1, hc2, hg2⟩
      have HC2 : Hid (Cur w2 g w.heap.size a len cap) := hc2
      have HG2 : Hid (wr.grownBy w2 (some g)) := hg2
      have hown2 := own_gbr hown hg2 hgw
      have hs2 := hg2.size
      clear hc2 hg2 hown
      go_wp2_with (at_builtin; refine wpList_append_own _ rfl _ _ 35 rfl w1.heap.size 3 i0 (.int .i64 0) 1 8 Try.underlying35 hi hz0 hz1 hz2 rfl (by decide) _ _ _ rfl (hown2.alloc _) ⟨w2.heap.size, 0, none⟩ 1 1 [.int .i64 _] rfl rfl (cell_one_new _ _ _) ?c2 ?c3 ?c4 ?c5 ?_)
      case c2 => first | rfl | (intro u hu; simp at hu; subst hu; rfl)
      case c3 => unfold maxLen; omega
      case c4 => omega
      case c5 => first | omega | (simp; omega)
      · intro v' w3 hown' hgrow _
        obtain ⟨q1, q2⟩ := row_step hs1 hgw HGr.out HG2.out HC2.out hown2 hgrow
        have q3 : w3.ownsRow w1.heap.size 3 1 v' (k + 1) (iv (l ++ [y])) := by
          simpa [iv] using hown'
        clear hown' hgrow hown2
        go_wp2_with fail
        go_roundw
        case rel => exact ⟨k + 1, l ++ [y], by go_num, by omega, by have := HL.out.1; simp; omega, by intro x hx; rcases List.mem_append.1 hx with h | h; exact HL.out.2 x h; simp at h; subst h; omega, q1, q2, q3⟩
        case measure => simp [intOf]; omega
    · obtain rfl : k = 12 := by omega
      go_wp2_with fail
      go_ret
      exact places_post HB1.out.size HL.out.1 HL.out.2 rfl hown HB1.out hg HGr.out
theorem cell_block {w : World} {a : Addr} {v : Value} (h : w.cell? a = some v) : a.block < w.heap.size := by
  by_cases hb : a.block < w.heap.size
  · exact hb
  · unfold World.cell? at h
    rw [Array.getElem?_eq_none (by omega)] at h
    simp at h
theorem code_at {w : World} {a : Option Addr} {len cap : Nat} {zs : List Int} (hl : len ≤ 1048576)
    (h : (a = none ∧ len = 0) ∨ ∃ x, a = some x ∧ len ≤ cap ∧ zs.length = cap ∧ (∀ i, i < zs.length → w.cell? (x.add i) = some (.int .u8 (zs.getD i 0))) ∧ ∀ n ∈ zs, (Lit.int .u8 n).wf = true) : CodeAt w w.heap.size a len := by
  refine ⟨hl, fun hp => ?_⟩
  rcases h with ⟨_, h0⟩ | ⟨x, rfl, hlc, hz, hc, hw⟩
  · omega
  · obtain ⟨b, off, spot⟩ := x
    have hs : spot = none := by simpa [Addr.add] using World.cell?_spot (hc 0 (by omega))
    subst hs
    refine ⟨b, off, rfl, ?_, fun j hj => ?_⟩
    · have := cell_block (hc 0 (by omega)); simpa [Addr.add] using this
    · have h1 := hc j (by omega)
      have e : (⟨b, off, none⟩ : Addr).add j = ⟨b, off + j, none⟩ := by cases j <;> simp [Addr.add]
      rw [e] at h1
      have hm : zs.getD j 0 ∈ zs := by
        have : j < zs.length := by omega
        simp [List.getD, this]
      have := bounds_u8 (hw _ hm)
      exact ⟨_, h1, this.1, by omega⟩
theorem big_any (a : Option Addr) (len cap : Nat) (w : World) :
    Calls Try.prog 20 #[.slice a len cap] w fun e w' => e = .returned (.bool (decide ((1048576 : Int) < len))) ∧ w' = w := by
  go_enter Try.func20, Try.ntmps20
  go_wp2_with fail
  go_ret
  exact ⟨rfl, rfl⟩
end Go.Proofs.Ytoaifodmjkhiiaa
/- SpQ: The model's order of hosts. -/
namespace Go.Proofs.Ytoaifodmjkhiiaa
set_option maxRecDepth 100000
open Go.RowKit BigFrame
attribute [local go_sem ↓] Go.wp_at_zero Go.wp_at_succ

/-- Places, as the model holds them. -/
def ivN (L : List Nat) : List Value := L.map fun (x : Nat) => Value.int .i64 (x : Int)
theorem ivN_len (L : List Nat) : (ivN L).length = L.length := by simp [ivN]
theorem ivN_at (L : List Nat) (i : Nat) (h : i < L.length) : (ivN L)[i]? = some (.int .i64 (L.getD i 0 : Nat)) := by simp [ivN, List.getD, h]
theorem ivN_swap (L : List Nat) (k : Nat) : ((ivN L).set k (.int .i64 (L.getD (k - 1) 0 : Nat))).set (k - 1) (.int .i64 (L.getD k 0 : Nat)) = ivN (swapL L k) := by
  unfold ivN swapL
  rw [List.map_set, List.map_set]
def OrdPost (hs : List HM) (w : World) (e : Ending) (w' : World) : Prop := ∃ (v : Value) (L : List Nat), e = .returned v ∧ w'.ownsRow w.heap.size 3 1 v L.length (ivN L) ∧ OrdI hs L ∧ Below w.heap.size w w'
set_option maxRecDepth 100000 in
set_option maxHeartbeats 4000000 in
theorem specOrder (a : Option Addr) (rs : List HoR) (cap : Nat) (w : World) (hr : HsRow w a rs) (hl : rs.length ≤ 1048576) :
    Calls Try.prog 27 #[.slice a rs.length cap] w fun e w' => OrdPost (hms rs) w e w' := by
  obtain ⟨i0, hin, hz0, hz1, hz2⟩ := info_parts infoInt
  obtain ⟨n, hn⟩ : ∃ n, n = rs.length := ⟨_, rfl⟩
  have HN := Shut.mk hn
  rw [← hn] at hl ⊢
  have HR := Shut.mk hr
  obtain ⟨hs, hhs⟩ : ∃ q, q = hms rs := ⟨_, rfl⟩
  rw [← hhs]
  have HHS : Shut (hs.length = n ∧ ∀ k (hk : k < rs.length), hs.getD k default = rs[k].h) := ⟨⟨by rw [hhs, hms_len, hn], fun k hk => by rw [hhs]; simp [hms, List.getD, hk]⟩⟩
  clear hr hn hhs
  go_enter Try.func27, Try.ntmps27
  have HO0 := Shut.mk (OwS.new (ty := 3) (sz := 1) (SL.start w))
  go_upto_region 3 with fail
  go_loopw [3, 4] (fun v i9 wr => ∃ (k m : Nat) (L : List Nat), i9 = .int .i64 k ∧ k ≤ n ∧ m ≤ k ∧ Shut (L = upTo hs k ∧ m = L.length) ∧ Shut (OwS w wr [] 3 1 v m (ivN L))) (fun _ i9 _ => n - (intOf i9).toNat)
  case atStart => exact ⟨0, 0, [], rfl, Nat.zero_le _, Nat.le_refl _, ⟨rfl, rfl⟩, HO0⟩
  case round =>
    clear HO0
    obtain ⟨k, m, L, rfl, hk, hmk, HL, HW⟩ := hrel
    obtain ⟨av, cv, rfl⟩ := own_row_slice HW.out.own
    by_cases hlt : k < n
    · have hkr : k < rs.length := by rw [← HN.out]; exact hlt
      obtain ⟨b, off, r, rfl, hre, lb, hc⟩ := hs_at HR.out HW.out.sl.bel hkr
      obtain ⟨d0, d1, d2, d3⟩ := hc wr (Below.refl _ _)
      have k0 : (0 : Int) ≤ (k : Int) := by omega
      have k1 : (k : Int) < (n : Int) := by omega
      have HST : Shut (upTo hs (k + 1) = upTo hs k ++ if r.h.up = true then [k] else []) := ⟨by rw [upTo_step, HHS.out.2 k hkr, ← hre]⟩
      clear hc hre d3
      cases hup : r.h.up with
      | false =>
        rw [hup] at d1 HST
        go_wp2_with fail
        go_roundw
        case rel => exact ⟨k + 1, m, L, by go_num, by omega, by omega, ⟨by rw [HST.out]; simpa using HL.out⟩, HW⟩
        case measure => simp [intOf]; omega
      | true =>
        rw [hup] at d1 HST
        have hown := HW.out.own
        have hbs := HW.out.sl.bel.size
        go_wp2_with (at_builtin; refine wpList_append_own_at _ rfl _ _ 35 rfl w.heap.size 3 i0 (.int .i64 0) 1 8 Try.underlying35 hin hz0 hz1 hz2 rfl (by decide) _ _ _ rfl (hown.alloc _) ⟨wr.heap.size, 0, none⟩ 1 1 [.int .i64 (k : Int)] rfl rfl (cell_one_new _ _ _) ?c2 ?c3 ?c4 ?c5 ?_)
        case c2 => simp [Value.oneCell']
        case c3 => unfold maxLen; omega
        case c4 => omega
        case c5 => first | omega | (simp; omega)
        intro v9 w9 ho hg _ hat
        have HL9 := Shut.mk (HW.out.more ((Below.refl _ _).alloc (Nat.le_refl _) _) ho hg (by simpa using hat))
        clear ho hg hat hown hbs
        go_wp2_with fail
        go_roundw
        case rel => exact ⟨k + 1, m + 1, L ++ [k], by go_num, by omega, by omega, ⟨by rw [HST.out]; simp only [if_true]; rw [← HL.out.1], by rw [List.length_append, ← HL.out.2]; rfl⟩, ⟨by have q := HL9.out; rw [show ivN (L ++ [k]) = ivN L ++ [.int .i64 (k : Int)] by simp [ivN]]; exact q⟩⟩
        case measure => simp [intOf]; omega
    · obtain rfl : n = k := by omega
      have HUP : Shut (L.Pairwise (· < ·) ∧ ∀ x ∈ L, x < n) := ⟨by rw [HL.out.1]; exact ⟨upTo_up hs n, upTo_lt hs n⟩⟩
      obtain ⟨U, hU⟩ : ∃ U, U = L := ⟨_, rfl⟩
      have HUU : Shut (U.Pairwise (· < ·) ∧ (∀ x ∈ U, x < n) ∧ U.length = m ∧ U = upTo hs n) := ⟨by rw [hU]; exact ⟨HUP.out.1, HUP.out.2, HL.out.2.symm, HL.out.1⟩⟩
      rw [← hU] at HW
      clear HL HUP hU hlt
      go_upto_region 8 with fail
      go_loopw [5] (fun i9 wr => ∃ (i : Nat) (L : List Nat), i9 = .int .i64 i ∧ 1 ≤ i ∧ i ≤ m + 1 ∧ Shut (Sd (pk hs) L (min i m) ∧ L.Perm U ∧ (∀ t, i ≤ t → L[t]? = U[t]?)) ∧ Shut (wr.ownsRow w.heap.size 3 1 (.slice av m cv) m (ivN L) ∧ Below w.heap.size w wr)) (fun i9 _ => m + 1 - (intOf i9).toNat)
      case atStart => exact ⟨1, U, rfl, Nat.le_refl _, by omega, ⟨fun a b hab hb => by omega, List.Perm.refl _, fun t _ => rfl⟩, ⟨HW.out.own, HW.out.sl.bel⟩⟩
      case round =>
        clear HW
        obtain ⟨i, L, rfl, hi1, him, HS, HO⟩ := hrel
        by_cases hlt : i < m
        · have i1 : (i : Int) < (m : Int) := by omega
          have HLU : Shut (L.length = m ∧ ∀ x ∈ L, x < n) := ⟨⟨by rw [HS.out.2.1.length_eq]; exact HUU.out.2.2.1, fun x hx => HUU.out.2.1 x (HS.out.2.1.mem_iff.1 hx)⟩⟩
          have HMV : Shut (Mv (pk hs) L i i) := ⟨mv_start (by have q := HS.out.1; rw [Nat.min_eq_left (by omega)] at q; exact q) HS.out.2.1 HUU.out.1 HS.out.2.2 (by have := HLU.out.1; omega)⟩
          go_upto_region 11 with fail
          go_loopw [6] (fun i9 wr => ∃ (k : Nat) (L : List Nat), i9 = .int .i64 k ∧ k ≤ i ∧ Shut ((Mv (pk hs) L i k ∨ Sd (pk hs) L (i + 1)) ∧ L.Perm U ∧ (∀ t, i + 1 ≤ t → L[t]? = U[t]?)) ∧ Shut (wr.ownsRow w.heap.size 3 1 (.slice av m cv) m (ivN L) ∧ Below w.heap.size w wr)) (fun i9 _ => (intOf i9).toNat)
          case atStart => exact ⟨i, L, rfl, Nat.le_refl _, ⟨.inl HMV.out, HS.out.2.1, fun t ht => HS.out.2.2 t (by omega)⟩, HO⟩
          case round =>
            clear HO HS HLU HMV
            obtain ⟨k, L, rfl, hki, HS, HO⟩ := hrel
            by_cases hk0 : 0 < k
            · have hlen : L.length = m := by rw [HS.out.2.1.length_eq]; exact HUU.out.2.2.1
              have hkl : k < L.length := by omega
              have hk1l : k - 1 < L.length := by omega
              have hin9 : ∀ t, t < L.length → L.getD t 0 < n := fun t ht => HUU.out.2.1 _ (HS.out.2.1.mem_iff.1 (by rw [List.getD, List.getElem?_eq_getElem ht]; exact List.getElem_mem ht))
              obtain ⟨x, hx⟩ : ∃ x, x = L.getD (k - 1) 0 := ⟨_, rfl⟩
              obtain ⟨z, hz⟩ : ∃ z, z = L.getD k 0 := ⟨_, rfl⟩
              have hxn : x < rs.length := by rw [hx, ← HN.out]; exact hin9 _ hk1l
              have hzn : z < rs.length := by rw [hz, ← HN.out]; exact hin9 _ hkl
              obtain ⟨gv, rfl⟩ : ∃ gv, av = some ⟨gv, 0, none⟩ := by
                rcases HO.out.1.2 with ⟨_, e⟩ | ⟨gv, _, _, e, _⟩
                · omega
                · simp only [Value.slice.injEq] at e; exact ⟨gv, e.1⟩
              have hw0 := own_wcells HO.out.1
              obtain ⟨e0, -⟩ := hw0.2 (k - 1) _ (ivN_at L (k - 1) hk1l)
              obtain ⟨e1, -⟩ := hw0.2 k _ (ivN_at L k hkl)
              rw [← hx] at e0
              rw [← hz] at e1
              obtain ⟨b, off, r1, rfl, hr1, lb, hc1⟩ := hs_at HR.out HO.out.2 hxn
              obtain ⟨b', off', r2, e', hr2, lb', hc2⟩ := hs_at HR.out HO.out.2 hzn
              simp only [Option.some.injEq, Addr.mk.injEq, and_true] at e'
              obtain ⟨rfl, rfl⟩ := e'
              have HGT : Shut (gt2 (pk hs) x z = (decide (r2.h.us.length < r1.h.us.length) || (r1.h.us.length == r2.h.us.length && decide (r2.h.id < r1.h.id)))) := ⟨by
                unfold gt2 pk
                rw [HHS.out.2 x hxn, HHS.out.2 z hzn, ← hr1, ← hr2]
                rfl⟩
              have HYES : Shut (gt2 (pk hs) x z = true → Mv (pk hs) (swapL L k) i (k - 1)) := ⟨fun h => by
                rw [hx, hz] at h
                rcases HS.out.1 with q | q
                · exact q.swap hk0 hki (by omega) h
                · have := q.quiet hk0 hki
                  rw [h] at this
                  cases this⟩
              have HNOT : Shut (gt2 (pk hs) x z = false → Sd (pk hs) L (i + 1)) := ⟨fun h => by
                rw [hx, hz] at h
                rcases HS.out.1 with q | q
                · exact q.stop hk0 hki h
                · exact q⟩
              obtain ⟨⟨id1, up1, us1⟩, lo1, c1⟩ := r1
              obtain ⟨⟨id2, up2, us2⟩, lo2, c2⟩ := r2
              dsimp only at *
              have HLa0 := Shut.mk (fun W => specLoadOf ⟨id1, up1, us1⟩ lo1 c1 W)
              have HLb0 := Shut.mk (fun W => specLoadOf ⟨id2, up2, us2⟩ lo2 c2 W)
              dsimp only [hov] at HLa0 HLb0
              obtain ⟨l1, hl1⟩ : ∃ q, q = us1.length := ⟨_, rfl⟩
              obtain ⟨l2, hl2⟩ : ∃ q, q = us2.length := ⟨_, rfl⟩
              rw [← hl1] at hc1 HLa0 HGT
              rw [← hl2] at hc2 HLb0 HGT
              have HC1 := Shut.mk hc1
              have HC2 := Shut.mk hc2
              obtain ⟨d0, d1, d2, -⟩ := hc1 wr (Below.refl _ _)
              have HWO0 : Shut (OwS w wr [] 3 1 (.slice (some ⟨gv, 0, none⟩) m cv) m (ivN L)) := ⟨⟨⟨HO.out.2, fun s h => (by cases h), .nil⟩, HO.out.1, fun q e s h => (by cases h)⟩⟩
              have HWO1 := Shut.mk (HWO0.out.box #[.int .i64 id1, .bool up1, .slice lo1 l1 c1] 29)
              have k0 : (0 : Int) ≤ (k : Int) := by omega
              have k1 : (k : Int) < (m : Int) := by omega
              have km : (k : Int) - 1 = ((k - 1 : Nat) : Int) := by omega
              have k2 : (0 : Int) ≤ ((k - 1 : Nat) : Int) := by omega
              have k3 : ((k - 1 : Nat) : Int) < (m : Int) := by omega
              have x0 : (0 : Int) ≤ (x : Int) := by omega
              have x1 : (x : Int) < (n : Int) := by have := HN.out; omega
              have z0 : (0 : Int) ≤ (z : Int) := by omega
              have z1 : (z : Int) < (n : Int) := by have := HN.out; omega
              have hkp : (0 : Int) < (k : Int) := by omega
              have hkp2 : 0 < k := hk0
              have HX9 := Shut.mk hx
              have HZ9 := Shut.mk hz
              clear hw0 hc1 hc2 hr1 hr2 hl1 hl2 hin9 hx hz
              obtain ⟨bb1, hbb1⟩ : ∃ q, q = wr.heap.size := ⟨_, rfl⟩
              rw [← hbb1] at HWO1
              go_upto_region 14 with fail
              refine wp_shade (fun W => OwS w W [bxS bb1 [.int .i64 id1, .bool up1, .slice lo1 l1 c1]] 3 1 (.slice (some ⟨gv, 0, none⟩) m cv) m (ivN L) ∧ Below wr.heap.size wr W) ⟨HWO1.out, (Below.refl _ _).alloc (Nat.le_refl _) _⟩ ?_
              intro W14 hW
              rw [← hbb1]
              have HWO1 := Shut.mk hW.1
              have HBW := Shut.mk hW.2
              clear hW HWO0 hbb1 d0 d1 d2 e0 e1
              obtain ⟨d0, d1, d2, -⟩ := HC2.out W14 HBW.out
              have hw1 := own_wcells HWO1.out.own
              obtain ⟨e1, -⟩ := hw1.2 k _ (ivN_at L k hkl)
              rw [← HZ9.out] at e1
              clear hw1
              have HWO2 := Shut.mk (HWO1.out.box #[.int .i64 id2, .bool up2, .slice lo2 l2 c2] 29)
              obtain ⟨bb2, hbb2⟩ : ∃ q, q = W14.heap.size := ⟨_, rfl⟩
              rw [← hbb2] at HWO2
              go_upto_region 15 with fail
              refine wp_shade (fun W => OwS w W [bxS bb2 [.int .i64 id2, .bool up2, .slice lo2 l2 c2], bxS bb1 [.int .i64 id1, .bool up1, .slice lo1 l1 c1]] 3 1 (.slice (some ⟨gv, 0, none⟩) m cv) m (ivN L)) HWO2.out ?_
              intro W15 hW
              rw [← hbb2]
              have HW2 := Shut.mk hW
              have HWO := Shut.mk hW.tail.tail
              clear hW HWO1 HWO2 hbb2 d0 d1 d2 e1 HBW
              have lb1 : bb1 < W15.heap.size := (HW2.out.sl.at 1 rfl).1
              have lb2 : bb2 < W15.heap.size := (HW2.out.sl.at 0 rfl).1
              have p0 : ∀ X : Grow W15, X.val.cell? ⟨bb1, 0, none⟩ = some (.int .i64 id1) := fun X => X.cell (HW2.out.sl.bx 1 rfl 0 _ rfl).1 lb1
              have p1 : ∀ X : Grow W15, X.val.cell? ⟨bb1, 1, none⟩ = some (.bool up1) := fun X => X.cell (HW2.out.sl.bx 1 rfl 1 _ rfl).1 lb1
              have p2 : ∀ X : Grow W15, X.val.cell? ⟨bb1, 2, none⟩ = some (.slice lo1 l1 c1) := fun X => X.cell (HW2.out.sl.bx 1 rfl 2 _ rfl).1 lb1
              have q0 : ∀ X : Grow W15, X.val.cell? ⟨bb2, 0, none⟩ = some (.int .i64 id2) := fun X => X.cell (HW2.out.sl.bx 0 rfl 0 _ rfl).1 lb2
              have q1 : ∀ X : Grow W15, X.val.cell? ⟨bb2, 1, none⟩ = some (.bool up2) := fun X => X.cell (HW2.out.sl.bx 0 rfl 1 _ rfl).1 lb2
              have q2 : ∀ X : Grow W15, X.val.cell? ⟨bb2, 2, none⟩ = some (.slice lo2 l2 c2) := fun X => X.cell (HW2.out.sl.bx 0 rfl 2 _ rfl).1 lb2
              have HLa := Shut.mk (fun X => calls_grow (w := W15) (fun W' (_ : Below W15.heap.size W15 W') => HLa0.out W') X)
              have HLb := Shut.mk (fun X => calls_grow (w := W15) (fun W' (_ : Below W15.heap.size W15 W') => HLb0.out W') X)
              by_cases g1 : l2 < l1
              case pos =>
                have g1d : decide ((l2 : Int) < (l1 : Int)) = true := by simp; omega
                have g1e : decide (l2 < l1) = true := by simpa using g1
                have HG : Shut (gt2 (pk hs) x z = true) := ⟨by rw [HGT.out, g1e]; rfl⟩
                refine wp_region_grow (by kernel_rfl) (by kernel_rfl) ?_
                repeat (go_big_quiet_step (first | (go_at_call 7; first | with_reducible exact HLa.out _ | with_reducible exact HLb.out _)))
                refine wpQuiet_nil ?_
                rintro _ ⟨X, rfl⟩
                have HOX := Shut.mk (HWO.out.below X.bel)
                clear p0 p1 p2 q0 q1 q2
                obtain ⟨X, hX⟩ := X
                dsimp only at *
                have hwX := own_wcells HOX.out.own
                obtain ⟨f0, f0z⟩ := hwX.2 (k - 1) _ (ivN_at L (k - 1) hk1l)
                obtain ⟨f1, f1z⟩ := hwX.2 k _ (ivN_at L k hkl)
                rw [← HX9.out] at f0
                rw [← HZ9.out] at f1
                have hwY := hwX.set k (.int .i64 (x : Int)) (by rw [ivN_len]; exact hkl)
                obtain ⟨y0, y0z⟩ := hwY.2 (k - 1) (.int .i64 (x : Int)) (by rw [List.getElem?_set_ne (by omega), ivN_at L (k - 1) hk1l, ← HX9.out])
                have HNO := Shut.mk (((HOX.out.own.stored k (.int .i64 (x : Int))).1.stored (k - 1) (.int .i64 (z : Int))).1)
                rw [HX9.out, HZ9.out, ivN_swap, ← HX9.out, ← HZ9.out] at HNO
                have HBO : Shut (Below w.heap.size w ((X.setCell ⟨gv, k, none⟩ (.int .i64 (x : Int))).setCell ⟨gv, k - 1, none⟩ (.int .i64 (z : Int)))) := ⟨by
                  have hg := (HOX.out.own.lt gv rfl).1
                  exact (HOX.out.sl.bel.grown (gb_set' X gv k _) HOX.out.sl.bel.size (fun q e => by cases e; exact hg)).grown (gb_set' _ gv (k - 1) _) (by have := HOX.out.sl.bel.size; simp [World.setCell]; exact this) (fun q e => by cases e; exact hg)⟩
                clear hwX hwY
                go_wp2_with fail
                go_roundw
                case rel => exact ⟨k - 1, swapL L k, congrArg (Value.int .i64) (by omega), by omega, ⟨.inl (HYES.out HG.out), (swapL_perm L k hk0 hkl).trans HS.out.2.1, fun t ht => by
                  have q := swapL_at L k hk0 hkl t
                  have e1 : (swapL L k)[t]? = L[t]? := by
                    unfold swapL
                    rw [List.getElem?_set_ne (by omega), List.getElem?_set_ne (by omega)]
                  rw [e1]
                  exact HS.out.2.2 t ht⟩, ⟨HNO.out, HBO.out⟩⟩
                case measure => simp [intOf]; omega
              have g1d : decide ((l2 : Int) < (l1 : Int)) = false := by simp; omega
              have g1e : decide (l2 < l1) = false := by simpa using g1
              by_cases g2 : l1 = l2
              case neg =>
                have g2d : ((l1 : Int) == (l2 : Int)) = false := by simp; omega
                have g2e : (l1 == l2) = false := by simpa using g2
                have HG : Shut (gt2 (pk hs) x z = false) := ⟨by rw [HGT.out, g1e, g2e]; rfl⟩
                clear g2
                refine wp_region_grow (by kernel_rfl) (by kernel_rfl) ?_
                repeat (go_big_quiet_step (first | (go_at_call 7; first | with_reducible exact HLa.out _ | with_reducible exact HLb.out _)))
                refine wpQuiet_nil ?_
                rintro _ ⟨X, rfl⟩
                have HOX := Shut.mk (HWO.out.below X.bel)
                clear p0 p1 p2 q0 q1 q2
                go_wp2_with fail
                go_roundw
                case rel => exact ⟨k - 1, L, congrArg (Value.int .i64) (by omega), by omega, ⟨.inr (HNOT.out HG.out), HS.out.2⟩, ⟨HOX.out.own, HOX.out.sl.bel⟩⟩
                case measure => simp [intOf]; omega
              have g2d : ((l1 : Int) == (l2 : Int)) = true := by simp; omega
              have g2e : (l1 == l2) = true := by simpa using g2
              clear g2
              by_cases g3 : id2 < id1
              case pos =>
                have g3d : decide (id2 < id1) = true := by simpa using g3
                have HG : Shut (gt2 (pk hs) x z = true) := ⟨by rw [HGT.out, g1e, g2e, g3d]; rfl⟩
                refine wp_region_grow (by kernel_rfl) (by kernel_rfl) ?_
                repeat (go_big_quiet_step (first | (go_at_call 7; first | with_reducible exact HLa.out _ | with_reducible exact HLb.out _)))
                refine wpQuiet_nil ?_
                rintro _ ⟨X, rfl⟩
                have HOX := Shut.mk (HWO.out.below X.bel)
                clear p0 p1 p2 q0 q1 q2
                obtain ⟨X, hX⟩ := X
                dsimp only at *
                have hwX := own_wcells HOX.out.own
                obtain ⟨f0, f0z⟩ := hwX.2 (k - 1) _ (ivN_at L (k - 1) hk1l)
                obtain ⟨f1, f1z⟩ := hwX.2 k _ (ivN_at L k hkl)
                rw [← HX9.out] at f0
                rw [← HZ9.out] at f1
                have hwY := hwX.set k (.int .i64 (x : Int)) (by rw [ivN_len]; exact hkl)
                obtain ⟨y0, y0z⟩ := hwY.2 (k - 1) (.int .i64 (x : Int)) (by rw [List.getElem?_set_ne (by omega), ivN_at L (k - 1) hk1l, ← HX9.out])
                have HNO := Shut.mk (((HOX.out.own.stored k (.int .i64 (x : Int))).1.stored (k - 1) (.int .i64 (z : Int))).1)
                rw [HX9.out, HZ9.out, ivN_swap, ← HX9.out, ← HZ9.out] at HNO
                have HBO : Shut (Below w.heap.size w ((X.setCell ⟨gv, k, none⟩ (.int .i64 (x : Int))).setCell ⟨gv, k - 1, none⟩ (.int .i64 (z : Int)))) := ⟨by
                  have hg := (HOX.out.own.lt gv rfl).1
                  exact (HOX.out.sl.bel.grown (gb_set' X gv k _) HOX.out.sl.bel.size (fun q e => by cases e; exact hg)).grown (gb_set' _ gv (k - 1) _) (by have := HOX.out.sl.bel.size; simp [World.setCell]; exact this) (fun q e => by cases e; exact hg)⟩
                clear hwX hwY
                go_wp2_with fail
                go_roundw
                case rel => exact ⟨k - 1, swapL L k, congrArg (Value.int .i64) (by omega), by omega, ⟨.inl (HYES.out HG.out), (swapL_perm L k hk0 hkl).trans HS.out.2.1, fun t ht => by
                  have q := swapL_at L k hk0 hkl t
                  have e1 : (swapL L k)[t]? = L[t]? := by
                    unfold swapL
                    rw [List.getElem?_set_ne (by omega), List.getElem?_set_ne (by omega)]
                  rw [e1]
                  exact HS.out.2.2 t ht⟩, ⟨HNO.out, HBO.out⟩⟩
                case measure => simp [intOf]; omega
              have g3d : decide (id2 < id1) = false := by simpa using g3
              have HG : Shut (gt2 (pk hs) x z = false) := ⟨by rw [HGT.out, g1e, g2e, g3d]; rfl⟩
              refine wp_region_grow (by kernel_rfl) (by kernel_rfl) ?_
              repeat (go_big_quiet_step (first | (go_at_call 7; first | with_reducible exact HLa.out _ | with_reducible exact HLb.out _)))
              refine wpQuiet_nil ?_
              rintro _ ⟨X, rfl⟩
              have HOX := Shut.mk (HWO.out.below X.bel)
              clear p0 p1 p2 q0 q1 q2
              go_wp2_with fail
              go_roundw
              case rel => exact ⟨k - 1, L, congrArg (Value.int .i64) (by omega), by omega, ⟨.inr (HNOT.out HG.out), HS.out.2⟩, ⟨HOX.out.own, HOX.out.sl.bel⟩⟩
              case measure => simp [intOf]; omega
            · obtain rfl : k = 0 := by omega
              have HSD : Shut (Sd (pk hs) L (i + 1)) := ⟨by rcases HS.out.1 with h | h; exact h.done; exact h⟩
              go_wp2_with fail
              go_roundw
              case rel => exact ⟨i + 1, L, by go_num, by omega, by omega, ⟨by rw [Nat.min_eq_left (by omega)]; exact HSD.out, HS.out.2.1, HS.out.2.2⟩, HO⟩
              case measure => simp [intOf]; omega
        · have HE : Shut (OrdI hs L ∧ L.length = m) := ⟨by
            have q := HS.out.1
            rw [Nat.min_eq_right (by omega)] at q
            have hlm : L.length = m := by rw [HS.out.2.1.length_eq]; exact HUU.out.2.2.1
            refine ⟨⟨by rw [hlm]; exact q, ?_⟩, hlm⟩
            have e := HUU.out.2.2.2
            rw [HHS.out.1, ← e]
            exact HS.out.2.1⟩
          go_wp2_with fail
          go_ret
          exact ⟨_, L, rfl, by rw [HE.out.2]; exact HO.out.1, HE.out.1, HO.out.2⟩
end Go.Proofs.Ytoaifodmjkhiiaa
/- SpS: The model's PlaceGroup. -/
namespace Go.Proofs.Ytoaifodmjkhiiaa
set_option maxRecDepth 100000
open Go.RowKit BigFrame
attribute [local go_sem ↓] Go.wp_at_zero Go.wp_at_succ

theorem ord_pairs {hs : List HM} {L : List Nat} (h : OrdI hs L) : L.map (pk hs) = ordP hs := by
  refine ordP_of ?_ ?_
  · rw [← upTo_pairs]
    exact h.2.map _
  · rw [List.pairwise_map]
    refine List.pairwise_iff_getElem.2 fun a b ha hb hab => ?_
    have q := h.1 a b hab hb
    have e1 : L.getD a 0 = L[a] := by simp [List.getD, ha]
    have e2 : L.getD b 0 = L[b] := by simp [List.getD, hb]
    rw [e1, e2] at q
    rw [plLe_iff]
    unfold lt3 at q
    omega
theorem own_base {W : World} {B B' t sz n : Nat} {v : Value} {L : List Value} (h : W.ownsRow B t sz v n L) (hB : B' ≤ B) : W.ownsRow B' t sz v n L :=
  ⟨h.1, h.2.imp id fun ⟨g, c, cur, e, hb, r⟩ => ⟨g, c, cur, e, Nat.le_trans hB hb, r⟩⟩
def PlcPost (r : List Int × Bool) (w : World) (e : Ending) (w' : World) : Prop := ∃ v, e = .returned (.tuple #[v, .bool r.2]) ∧ w'.ownsRow w.heap.size 3 1 v r.1.length (iv r.1) ∧ Below w.heap.size w w'
set_option maxRecDepth 100000 in
set_option maxHeartbeats 2000000 in
theorem specPlaceGroup (a : Option Addr) (rs : List HoR) (cap : Nat) (x : Int) (w : World) (hr : HsRow w a rs) (hl : rs.length ≤ 1048576) :
    Calls Try.prog 12 #[.slice a rs.length cap, .int .i64 x] w fun e w' => PlcPost (plcX (hms rs) x) w e w' := by
  obtain ⟨i0, hin, hz0, hz1, hz2⟩ := info_parts infoInt
  have HOD := Shut.mk (specOrder a rs cap w hr hl)
  obtain ⟨n, hn⟩ : ∃ n, n = rs.length := ⟨_, rfl⟩
  have HN := Shut.mk hn
  have HR := Shut.mk hr
  obtain ⟨hs, hhs⟩ : ∃ q, q = hms rs := ⟨_, rfl⟩
  rw [← hhs]
  rw [← hhs] at HOD
  have HHS : Shut (hs.length = n ∧ ∀ k (hk : k < rs.length), hs.getD k default = rs[k].h) := ⟨⟨by rw [hhs, hms_len, hn], fun k hk => by rw [hhs]; simp [hms, List.getD, hk]⟩⟩
  rw [← hn] at HOD hl ⊢
  clear hr hn hhs
  obtain ⟨RR, hRR⟩ : ∃ q, q = plcX hs x := ⟨_, rfl⟩
  rw [← hRR]
  have HQ := Shut.mk hRR
  clear hRR
  go_enter Try.func12, Try.ntmps12
  go_upto_region 2 with (go_at_call 27; refine HOD.out.mono ?_; rintro e w1 ⟨v1, L, rfl, ho1, hod, hb1⟩; have HO1 := Shut.mk (And.intro ho1 hb1); have HI := Shut.mk hod; clear ho1 hb1 hod)
  obtain ⟨av, cv, rfl⟩ := own_row_slice HO1.out.1
  obtain ⟨m, hm⟩ : ∃ m, m = L.length := ⟨_, rfl⟩
  rw [← hm]
  rw [← hm] at HO1
  have HM := Shut.mk hm
  have HLN : Shut (∀ y ∈ L, y < n) := ⟨fun y hy => by have q := upTo_lt hs hs.length y (HI.out.2.mem_iff.1 hy); rw [HHS.out.1] at q; exact q⟩
  have hmn : m ≤ n := by
    have q := HI.out.2.length_eq
    have q2 := upTo_len hs hs.length
    have := HHS.out.1
    omega
  have HPR : Shut (ordP hs = L.map (pk hs) ∧ (ordP hs).length = m) := ⟨by rw [← ord_pairs HI.out]; exact ⟨rfl, by rw [List.length_map, hm]⟩⟩
  have HO2 : Shut (OwS w1 (w1.alloc (.cells #[] 3)) [] 3 1 (.slice (some ⟨w1.heap.size, 0, none⟩) 0 0) 0 []) := ⟨OwS.new (SL.start w1)⟩
  have HBB : Shut (∀ W, Below w1.heap.size w1 W → Below w.heap.size w W) := ⟨fun W h => HO1.out.2.trans (h.mono HO1.out.2.size)⟩
  have HWS : Shut (w.heap.size ≤ w1.heap.size) := ⟨HO1.out.2.size⟩
  have HRW : Shut (CRow w1 av (ivN L)) := ⟨(FRw.of_own HO1.out.1).1.crow⟩
  clear hm
  by_cases hx0 : x < 0
  case pos =>
    have HE : Shut (RR = ([], false)) := ⟨by rw [HQ.out]; unfold plcX; rw [if_neg (by omega)]⟩
    go_wp2_with fail
    go_ret2
    refine ⟨_, by rw [HE.out]; rfl, by rw [HE.out]; exact own_base HO2.out.own HWS.out, HBB.out _ HO2.out.sl.bel⟩
  by_cases hxm : (m : Int) < x
  case pos =>
    have HE : Shut (RR = ([], false)) := ⟨by rw [HQ.out]; unfold plcX; rw [HPR.out.2, if_neg (by omega)]⟩
    go_wp2_with fail
    go_ret2
    refine ⟨_, by rw [HE.out]; rfl, by rw [HE.out]; exact own_base HO2.out.own HWS.out, HBB.out _ HO2.out.sl.bel⟩
  obtain ⟨y, rfl⟩ := Int.eq_ofNat_of_zero_le (show 0 ≤ x by omega)
  have hym : y ≤ m := by omega
  have HE : Shut (RR = (((L.take y).map fun t => (pk hs t).2), true)) := ⟨by
    rw [HQ.out]
    unfold plcX
    rw [HPR.out.2, if_pos ⟨by omega, by omega⟩, HPR.out.1, Int.toNat_natCast, ← List.map_take, List.map_map]
    rfl⟩
  have hxm2 : ¬ (m : Int) < (y : Int) := by omega
  clear hxm HQ
  go_upto_region 6 with fail
  go_loopw [7, 8] (fun v i9 wr => ∃ (k : Nat), i9 = .int .i64 k ∧ k ≤ y ∧ Shut (OwS w1 wr [] 3 1 v k (iv ((L.take k).map fun t => (pk hs t).2)))) (fun _ i9 _ => y - (intOf i9).toNat)
  case atStart => exact ⟨0, rfl, Nat.zero_le _, HO2⟩
  case round =>
    clear HO2
    obtain ⟨k, rfl, hk, HW⟩ := hrel
    obtain ⟨av2, cv2, rfl⟩ := own_row_slice HW.out.own
    by_cases hlt : k < y
    · have hkl : k < L.length := by have := HM.out; omega
      obtain ⟨b1, o1, e1, lb1, hc1⟩ := (HRW.out.stays HW.out.sl.bel) (by rw [ivN_len]; omega)
      have hck := hc1 k _ (ivN_at L k hkl)
      obtain ⟨t, ht⟩ : ∃ t, t = L.getD k 0 := ⟨_, rfl⟩
      rw [← ht] at hck
      have htm : t ∈ L := by rw [ht, List.getD, List.getElem?_eq_getElem hkl]; exact List.getElem_mem hkl
      have htn : t < rs.length := by rw [← HN.out]; exact HLN.out t htm
      obtain ⟨b, off, r, e2, hre, lb, hc⟩ := hs_at HR.out (HBB.out _ HW.out.sl.bel) htn
      obtain ⟨d0, d1, d2, d3⟩ := hc wr (Below.refl _ _)
      have HNX : Shut (iv ((L.take (k + 1)).map fun t => (pk hs t).2) = iv ((L.take k).map fun t => (pk hs t).2) ++ [.int .i64 r.h.id]) := ⟨by
        have e3 : L[k] = t := by rw [ht, List.getD, List.getElem?_eq_getElem hkl]; rfl
        have e4 : (pk hs t).2 = r.h.id := by unfold pk; rw [HHS.out.2 t htn, ← hre]; rfl
        rw [List.take_succ_eq_append_getElem hkl, List.map_append, e3]
        unfold iv
        rw [List.map_append]
        simp [e4]⟩
      subst e1
      subst e2
      have k0 : (0 : Int) ≤ (k : Int) := by omega
      have k1 : (k : Int) < (m : Int) := by omega
      have k2 : (k : Int) < (y : Int) := by omega
      have t0 : (0 : Int) ≤ (t : Int) := by omega
      have t1 : (t : Int) < (n : Int) := by have := HN.out; omega
      have hown := HW.out.own
      have hbs := HW.out.sl.bel.size
      clear hc1 hc hre d1 d2 d3 ht htm
      go_wp2_with (at_builtin; refine wpList_append_own_at _ rfl _ _ 35 rfl w1.heap.size 3 i0 (.int .i64 0) 1 8 Try.underlying35 hin hz0 hz1 hz2 rfl (by decide) _ _ _ rfl (hown.alloc _) ⟨wr.heap.size, 0, none⟩ 1 1 [.int .i64 r.h.id] rfl rfl (cell_one_new _ _ _) ?c2 ?c3 ?c4 ?c5 ?_)
      case c2 => simp [Value.oneCell']
      case c3 => unfold maxLen; omega
      case c4 => omega
      case c5 => first | omega | (simp; omega)
      intro v9 w9 ho hg _ hat
      have HL9 := Shut.mk (HW.out.more ((Below.refl _ _).alloc (Nat.le_refl _) _) ho hg (by simpa using hat))
      rw [← List.map_take, ← HNX.out] at HL9
      clear ho hg hat hown hbs
      go_wp2_with fail
      go_roundw
      case rel => exact ⟨k + 1, by go_num, by omega, HL9⟩
      case measure => simp [intOf]; omega
    · obtain rfl : y = k := by omega
      go_wp2_with fail
      go_ret2
      refine ⟨_, by rw [HE.out]; rfl, ?_, HBB.out _ HW.out.sl.bel⟩
      rw [HE.out]
      have q := HW.out.own
      have e : ((L.take y).map fun t => (pk hs t).2).length = y := by rw [List.length_map, List.length_take]; have := HM.out; omega
      dsimp only
      rw [e]
      exact own_base q HWS.out
end Go.Proofs.Ytoaifodmjkhiiaa
/- HeE: The program's own queueOf and PlaceGroup. -/
namespace Go.Proofs.Ytoaifodmjkhiiaa
set_option maxRecDepth 100000
open Go.RowKit BigFrame
attribute [local go_sem ↓] Go.wp_at_zero Go.wp_at_succ

theorem implAny (v : Value) (w : World) : Calls Try.prog 29 #[v] w fun e w' => e = .returned (.bool true) ∧ w' = w := by
  go_enter Try.func29, Try.ntmps29
  go_wp2_with fail
  go_ret
  exact ⟨rfl, rfl⟩
/-- The queue of the hosts that are up. -/
structure QOf (w W : World) (B b off : Nat) (v : Value) (hs : List HM) (k : Nat) (Q : List Nat) : Prop where
  own : OwS w W [bxS B [v]] 77 2 v Q.length (seS b off Q)
  all : Q.Perm (upTo hs k)
  heap : HpN (pk hs) Q Q.length
theorem perm_app {Q U : List Nat} (h : Q.Perm U) (R : List Nat) (t : Nat) (k : R.Perm (Q ++ [t])) : R.Perm (U ++ [t]) := k.trans (h.append_right _)
set_option maxRecDepth 100000 in
set_option maxHeartbeats 2000000 in
theorem implQueueOf (a : Option Addr) (rs : List HoR) (cap b off : Nat) (w : World) (hr : HsRow w a rs) (hl : rs.length ≤ 1048576) (ha : 0 < rs.length → a = some ⟨b, off, none⟩) :
    Calls Try.prog 28 #[.slice a rs.length cap, .func (.func 29) #[] #[]] w fun e w' => ∃ B v Q, e = .returned (.pointer (some ⟨B, 0, none⟩)) ∧ QOf w w' B b off v (hms rs) rs.length Q := by
  obtain ⟨n, hn⟩ : ∃ n, n = rs.length := ⟨_, rfl⟩
  have HN := Shut.mk hn
  have HR := Shut.mk (And.intro hr ha)
  rw [← hn] at hl ⊢
  clear hr ha hn
  have H0 : Shut (QOf w ((w.alloc (.cells #[] 77)).alloc (.cells #[.slice (some ⟨w.heap.size, 0, none⟩) 0 0] 74)) (w.heap.size + 1) b off (.slice (some ⟨w.heap.size, 0, none⟩) 0 0) (hms rs) 0 []) := ⟨by
    have q := (OwS.new (ty := 77) (sz := 2) (SL.start w)).box #[.slice (some ⟨w.heap.size, 0, none⟩) 0 0] 74
    simp only [World.size_alloc] at q
    exact ⟨q, by simp [upTo], fun k h0 h1 => by simp at h1⟩⟩
  go_enter Try.func28, Try.ntmps28
  go_wp2_with fail
  go_loopw [11] (fun i9 wr => ∃ (k : Nat), i9 = .int .i64 (k : Nat) ∧ k ≤ n ∧ Shut (∃ v Q, QOf w wr (w.heap.size + 1) b off v (hms rs) k Q)) (fun i9 _ => n - (intOf i9).toNat)
  case atStart => exact ⟨0, rfl, Nat.zero_le _, ⟨_, _, H0.out⟩⟩
  case round =>
    clear H0
    obtain ⟨k, rfl, hk, HW⟩ := hrel
    obtain ⟨v, Q, hq⟩ := HW.out
    have HQ := Shut.mk hq
    clear hq HW
    by_cases hlt : k < n
    · have hkr : k < rs.length := by rw [← HN.out]; exact hlt
      obtain ⟨b1, o1, r, e1, hre, lb, hc⟩ := hs_at HR.out.1 HQ.out.own.sl.bel hkr
      have e2 := HR.out.2 (by omega)
      rw [e1] at e2
      simp only [Option.some.injEq, Addr.mk.injEq, and_true] at e2
      obtain ⟨rfl, rfl⟩ := e2
      obtain ⟨d0, d1, d2, d3⟩ := hc wr (Below.refl _ _)
      have HUP : Shut (r.h.up = ((hms rs).getD k default).up) := ⟨by rw [hre]; simp [hms, List.getD, hkr]⟩
      have HUS := Shut.mk (upTo_step (hms rs) k)
      have k0 : (0 : Int) ≤ (k : Int) := by omega
      have k1 : (k : Int) < (n : Int) := by omega
      have hrow := HR.out.1
      have hQn : ∀ x ∈ Q, x < rs.length := fun x hx => by have q := upTo_lt (hms rs) k x (HQ.out.all.mem_iff.1 hx); omega
      have hQl : Q.length ≤ k := by rw [HQ.out.all.length_eq]; exact upTo_len _ _
      subst e1
      have HPU := Shut.mk (implPush HQ.out.own rfl (by omega) hrow hQn k hkr HQ.out.heap)
      clear hc hre hrow hQn d0 d2 d3
      cases hu : r.h.up with
      | true =>
        rw [hu] at d1 HUP
        go_wp2_with (first
          | (go_at_call 29; refine (implAny _ _).mono ?_; rintro e w2 ⟨rfl, hw2⟩; subst hw2)
          | (go_at_call 40; refine HPU.out.mono ?_; rintro e w3 ⟨rfl, g, c, R, hR, hH, h3⟩; have H3 := Shut.mk (And.intro hR (And.intro hH h3)); clear hR hH h3))
        go_roundw
        case rel =>
          have hRl : R.length = Q.length + 1 := by rw [H3.out.1.length_eq]; simp
          refine ⟨k + 1, by go_num, by omega, ⟨.slice (some ⟨g, 0, none⟩) (Q.length + 1) c, R, ⟨?_, ?_, ?_⟩⟩⟩
          · rw [hRl]; exact H3.out.2.2
          · rw [HUS.out, ← HUP.out, if_pos rfl]; exact perm_app HQ.out.all R k H3.out.1
          · rw [hRl]; exact H3.out.2.1
        case measure => simp [intOf]; omega
      | false =>
        rw [hu] at d1 HUP
        have HNX : Shut (upTo (hms rs) (k + 1) = upTo (hms rs) k) := ⟨by rw [HUS.out, ← HUP.out]; simp⟩
        go_wp2_with fail
        go_roundw
        case rel => exact ⟨k + 1, by go_num, by omega, ⟨v, Q, HQ.out.own, by rw [HNX.out]; exact HQ.out.all, HQ.out.heap⟩⟩
        case measure => simp [intOf]; omega
    · obtain rfl : n = k := by omega
      go_wp2_with fail
      go_ret
      exact ⟨_, v, Q, rfl, HQ.out⟩
/-- A row of one's own as a stretch. -/
abbrev owS (ty sz : Nat) (v : Value) (n : Nat) (L : List Value) (lo hi : Nat) : Str := ⟨fun W => W.ownsRow lo ty sz v n L ∧ ∀ q, v.ownBlock = some q → q < hi, lo, hi⟩
theorem owS.loc (ty sz : Nat) (v : Value) (n : Nat) (L : List Value) (lo hi : Nat) : (owS ty sz v n L lo hi).Loc := fun W W' l h hp t hd => by
  refine ⟨?_, hp.2⟩
  rcases hp.1.2 with ⟨e, e0⟩ | ⟨g, cap, cur, e, hb, hg, r⟩
  · exact ⟨hp.1.1, .inl ⟨e, e0⟩⟩
  · have hgh : g < h ∨ h ≤ g := Nat.lt_or_ge _ _
    have hq := hp.2 g (by rw [e]; rfl)
    have hgs : g < W.heap.size := (hp.1.lt g (by rw [e]; rfl)).2
    refine ⟨hp.1.1, .inr ⟨g, cap, cur, e, hb, ?_, r⟩⟩
    rw [← hg]
    exact t.block g hgs (by dsimp only [owS] at hd; omega)
/-- Two rows of one's own: one behind the other. -/
theorem OwS.beside {w0 W : World} {ty sz n B w1 ty' sz' k : Nat} {v u : Value} {L M : List Value} (h : OwS w0 W [bxS B [v]] ty sz v n L) (hB : B < w1) (hv : ∀ q, v.ownBlock = some q → q < w1) (h0 : w0.heap.size ≤ w1) (hu : W.ownsRow w1 ty' sz' u k M) :
    OwS w0 W [bxS B [v], owS ty' sz' u k M w1 W.heap.size] ty sz v n L := by
  refine ⟨⟨h.sl.bel, fun s hs => ?_, ?_⟩, h.own, fun q e s hs => ?_⟩
  · simp only [List.mem_cons, List.not_mem_nil, or_false] at hs
    rcases hs with rfl | rfl
    · exact h.sl.is _ (List.mem_cons_self ..)
    · exact ⟨⟨hu, fun q e => (hu.lt q e).2⟩, owS.loc _ _ _ _ _ _ _, h0, Nat.le_refl _⟩
  · refine List.pairwise_cons.2 ⟨fun s hs => ?_, List.pairwise_singleton _ _⟩
    rw [List.mem_singleton] at hs
    subst hs
    exact .inl hB
  · simp only [List.mem_cons, List.not_mem_nil, or_false] at hs
    rcases hs with rfl | rfl
    · exact h.far q e _ (List.mem_cons_self ..)
    · exact .inr (hv q e)
/-- Another row of one's own is made longer. -/
theorem OwS.other {w0 W Wa W' : World} {ty sz n B : Nat} {v : Value} {L : List Value} {row : Option Nat} {S : List Str} (h : OwS w0 W (bxS B [v] :: S) ty sz v n L) (hb : Below W.heap.size W Wa) (hg : Wa.grownBy W' row) (hr : ∀ q, row = some q → w0.heap.size ≤ q ∧ q ≠ B ∧ v.ownBlock ≠ some q) : OwS w0 W' [bxS B [v]] ty sz v n L := by
  have k : OwS w0 Wa [bxS B [v]] ty sz v n L := by
    have q := h.below hb
    refine ⟨⟨q.sl.bel, fun s hs => ?_, List.pairwise_singleton _ _⟩, q.own, fun g e s hs => ?_⟩
    · rw [List.mem_singleton] at hs
      subst hs
      exact q.sl.is _ (List.mem_cons_self ..)
    · rw [List.mem_singleton] at hs
      subst hs
      exact q.far g e _ (List.mem_cons_self ..)
  refine ⟨k.sl.grown hg fun q e => ⟨(hr q e).1, fun s hs => ?_⟩, k.own.kept hg ?_, k.far⟩
  · rw [List.mem_singleton] at hs
    subst hs
    have := (hr q e).2.1
    dsimp only [bxS]
    omega
  · cases e : v.ownBlock with
    | none => exact .inl rfl
    | some q => exact .inr fun e2 => (hr q e2.symm).2.2 e
theorem own_any {W : World} {B ty sz n : Nat} {v : Value} {L : List Value} (h : W.ownsRow B ty sz v n L) : ∃ a c, v = .slice a n c := by
  rcases h.2 with ⟨rfl, h0⟩ | ⟨g, cap, cur, e, _⟩
  · exact ⟨none, 0, by rw [h0]⟩
  · exact ⟨_, _, e⟩
/-- What is known while hosts are taken. -/
structure PQ (w W : World) (W1 B b off d : Nat) (va : Option Addr) (vc : Nat) (hs : List HM) (P Q : List Nat) (v : Value) : Prop where
  len : Q.length = d
  out : Out (pk hs) (upTo hs hs.length) P Q
  heap : HpN (pk hs) Q d
  own : OwS w W [bxS B [.slice va d vc]] 77 2 (.slice va d vc) d (seS b off Q)
  ids : W.ownsRow W1 3 1 v P.length (iv (P.map fun t => (pk hs t).2))
  big : W1 ≤ W.heap.size
set_option maxRecDepth 100000 in
set_option maxHeartbeats 4000000 in
theorem implPlaceGroup (a : Option Addr) (rs : List HoR) (cap : Nat) (x : Int) (w : World) (hr : HsRow w a rs) (hl : rs.length ≤ 1048576) (_ : hsSum (hms rs) ≤ 1048576) (hx : -9223372036854775808 ≤ x ∧ x ≤ 9223372036854775807) :
    Calls Try.prog 14 #[.slice a rs.length cap, .int .i64 x] w fun e w' => PlcPost (plcX (hms rs) x) w e w' := by
  obtain ⟨i0, hin, hz0, hz1, hz2⟩ := info_parts infoInt
  obtain ⟨b, off, hab⟩ : ∃ b off, 0 < rs.length → a = some ⟨b, off, none⟩ := by
    by_cases h : 0 < rs.length
    · obtain ⟨b, off, e, _⟩ := hr.at h
      exact ⟨b, off, fun _ => e⟩
    · exact ⟨0, 0, fun q => absurd q h⟩
  have HQO := Shut.mk (implQueueOf a rs cap b off w hr hl hab)
  obtain ⟨n, hn⟩ : ∃ n, n = rs.length := ⟨_, rfl⟩
  have HN := Shut.mk hn
  have HR := Shut.mk (And.intro hr hab)
  obtain ⟨RR, hRR⟩ : ∃ q, q = plcX (hms rs) x := ⟨_, rfl⟩
  rw [← hRR]
  have HQ := Shut.mk hRR
  rw [← hn] at hl HQO ⊢
  clear hr hab hn hRR
  go_enter Try.func14, Try.ntmps14
  go_upto_region 2 with (go_at_call 28; refine HQO.out.mono ?_; rintro e w1 ⟨B, v, Q, rfl, hq⟩; have HQ1 := Shut.mk hq; clear hq)
  obtain ⟨va, vc, rfl⟩ := own_row_slice HQ1.out.own.own
  obtain ⟨m, hm⟩ : ∃ m, m = Q.length := ⟨_, rfl⟩
  have HM := Shut.mk hm
  have HPL : Shut ((ordP (hms rs)).length = m) := ⟨by rw [(ordP_perm (hms rs)).length_eq, ← upTo_pairs, List.length_map, hms_len, ← HN.out, ← HQ1.out.all.length_eq, hm]⟩
  have hmn : m ≤ n := by
    have q := HQ1.out.all.length_eq
    have q2 := upTo_len (hms rs) n
    omega
  have x0 := (HQ1.out.own.sl.bx 0 rfl 0 _ rfl).1
  rw [← hm] at x0
  have HB1 := Shut.mk HQ1.out.own.sl.bel
  clear hm
  by_cases hx0 : x < 0
  case pos =>
    have HE : Shut (RR = ([], false)) := ⟨by rw [HQ.out]; unfold plcX; rw [if_neg (by omega)]⟩
    go_wp2_with fail
    go_ret2
    exact ⟨_, by rw [HE.out]; rfl, by rw [HE.out]; exact World.ownsRow_nil _ _ _ _, HB1.out⟩
  by_cases hxm : (m : Int) < x
  case pos =>
    have HE : Shut (RR = ([], false)) := ⟨by rw [HQ.out]; unfold plcX; rw [HPL.out, if_neg (by omega)]⟩
    go_wp2_with (go_at_call 30; refine (implLen va m vc w1).mono ?_; rintro e w2 ⟨rfl, hw2⟩; subst hw2)
    go_ret2
    exact ⟨_, by rw [HE.out]; rfl, by rw [HE.out]; exact World.ownsRow_nil _ _ _ _, HB1.out⟩
  obtain ⟨y, rfl⟩ := Int.eq_ofNat_of_zero_le (show 0 ≤ x by omega)
  have hym : y ≤ m := by omega
  have hxm2 : ¬ (m : Int) < (y : Int) := by omega
  have HE : Shut (RR = (((ordP (hms rs)).take y).map Prod.snd, true)) := ⟨by rw [HQ.out]; unfold plcX; rw [HPL.out, if_pos ⟨by omega, by omega⟩, Int.toNat_natCast]⟩
  have lB : B < w1.heap.size := (HQ1.out.own.sl.at 0 rfl).1
  have lv : ∀ q, (Value.slice va Q.length vc).ownBlock = some q → q < w1.heap.size := fun q e => (HQ1.out.own.own.lt q e).2
  have hmy : decide (m < y) = false := by simp; omega
  clear hxm HQ
  go_upto_region 5 with (go_at_call 30; refine (implLen va m vc w1).mono ?_; rintro e w2 ⟨rfl, hw2⟩; subst hw2)
  obtain ⟨W1, hW1⟩ : ∃ q, q = w2.heap.size := ⟨_, rfl⟩
  have HST : Shut (PQ w w2 W1 B b off m va vc (hms rs) [] Q (.slice none 0 0)) := ⟨by
    have q := HQ1.out
    refine ⟨HM.out.symm, Out.start (by rw [hms_len, ← HN.out]; exact q.all), by rw [HM.out]; exact q.heap, ?_, World.ownsRow_nil _ _ _ _, Nat.le_of_eq hW1⟩
    have q2 := q.own
    rw [← HM.out] at q2
    exact q2⟩
  have HLT : Shut (B < W1 ∧ (∀ g, va = some ⟨g, 0, none⟩ → g < W1) ∧ w.heap.size ≤ W1) := ⟨by rw [hW1]; exact ⟨lB, fun g e => lv g (by rw [e]; rfl), HB1.out.size⟩⟩
  clear lB lv HQ1 HM HQO x0 HB1 hW1
  go_upto_region 6 with fail
  go_loopw [7, 21] (fun v i9 wr => ∃ (k : Nat), i9 = .int .i64 (k : Nat) ∧ k ≤ y ∧ Shut (∃ P Q', P.length = k ∧ PQ w wr W1 B b off (m - k) va vc (hms rs) P Q' v)) (fun _ i9 _ => y - (intOf i9).toNat)
  case atStart => exact ⟨0, rfl, Nat.zero_le _, ⟨[], Q, rfl, HST.out⟩⟩
  case round =>
    clear HST
    obtain ⟨k, rfl, hk, HW⟩ := hrel
    obtain ⟨P, Q', hP, hpq⟩ := HW.out
    have HP := Shut.mk (And.intro hP hpq)
    clear hP hpq HW
    have hids := HP.out.2.ids
    rw [HP.out.1] at hids
    obtain ⟨av, cv, rfl⟩ := own_any hids
    clear hids
    by_cases hlt : k < y
    · obtain ⟨d, hd⟩ : ∃ d, m - k = d + 1 := ⟨m - k - 1, by omega⟩
      rw [hd] at HP
      obtain ⟨g, rfl⟩ : ∃ g, va = some ⟨g, 0, none⟩ := by
        rcases HP.out.2.own.own.2 with ⟨e, h0⟩ | ⟨g, cap, cur, e, _⟩
        · omega
        · cases e; exact ⟨g, rfl⟩
      have hn1 : 0 < rs.length := by have := HN.out; omega
      have HAB := HR.out.2 hn1
      have hrow := HR.out.1
      rw [HAB] at hrow
      have HBS := HP.out.2.own.beside HLT.out.1 (fun q e => HLT.out.2.1 q (by cases e; rfl)) HLT.out.2.2 HP.out.2.ids
      have hQl := HP.out.2.len
      have hQn : ∀ t ∈ Q', t < rs.length := fun t ht => by
        have q := upTo_lt (hms rs) _ t (HP.out.2.out.all.mem_iff.1 (List.mem_append_right _ ht))
        rw [hms_len] at q
        exact q
      have HNX := Shut.mk (implNext HBS hQl (by omega) hrow hQn HP.out.2.heap)
      obtain ⟨t, ht⟩ : ∃ t, t = Q'.getD 0 0 := ⟨_, rfl⟩
      have htn : t < rs.length := by rw [ht]; exact hQn _ (by simp [List.getD, show 0 < Q'.length by omega])
      rw [← ht] at HNX
      have HT := Shut.mk ht
      have HC : Shut (∀ X, Below w.heap.size w X → X.cell? ⟨b, off + t * 3, none⟩ = some (.int .i64 (pk (hms rs) t).2)) := ⟨fun X hX => by
        obtain ⟨b1, o1, r, e1, hre, lb, hc⟩ := hs_at hrow (Below.refl _ _) htn
        cases e1
        have q := (hc X hX).1
        have e : (pk (hms rs) t).2 = r.h.id := by unfold pk keyP; simp [hms, List.getD, htn, hre]
        rw [e]
        exact q⟩
      obtain ⟨id, hid⟩ : ∃ q, q = (pk (hms rs) t).2 := ⟨_, rfl⟩
      rw [← hid] at HC
      have HID := Shut.mk hid
      have hPk := HP.out.1
      clear hrow HAB HBS hQl hQn htn ht hid
      go_wp2_with (first
        | (go_at_call 31; refine HNX.out.mono ?_; rintro e w3 ⟨rfl, R, hR, hRl, hH, h3⟩; have H3 := Shut.mk (And.intro hR (And.intro hRl (And.intro hH h3))); have c3 := HC.out w3 h3.sl.bel; have o3 := (show owS _ _ _ _ _ _ _ |>.p w3 from h3.sl.at 1 rfl).1; have b3 : W1 ≤ w3.heap.size := Nat.le_trans HP.out.2.big (h3.sl.is _ (List.mem_cons_of_mem _ (List.mem_singleton.2 rfl))).2.2.2; clear hR hRl hH h3)
        | (at_builtin; refine wpList_append_own_at _ rfl _ _ 35 rfl W1 3 i0 (.int .i64 0) 1 8 Try.underlying35 hin hz0 hz1 hz2 rfl (by decide) _ _ _ rfl (o3.alloc _) ⟨w3.heap.size, 0, none⟩ 1 1 [.int .i64 id] rfl rfl (cell_one_new _ _ _) ?c2 ?c3 ?c4 ?c5 ?_))
      case c2 => simp [Value.oneCell']
      case c3 => unfold maxLen; omega
      case c4 => omega
      case c5 => first | omega | (simp; omega)
      intro v9 w9 ho hg _ hat
      have hLT := HLT.out
      have HO9 := Shut.mk (H3.out.2.2.2.other ((Below.refl _ _).alloc (Nat.le_refl _) _) hg (fun q e => by
        have q1 := (o3.lt q e).1
        refine ⟨by omega, by omega, fun e2 => ?_⟩
        have e3 : g = q := by simpa [Value.ownBlock] using e2
        have := hLT.2.1 g rfl
        omega))
      have hgs := hg.size
      have HB9 : Shut (W1 ≤ w9.heap.size) := ⟨by simp only [World.size_alloc] at hgs; omega⟩
      have HD9 : Shut (w9.ownsRow W1 3 1 v9 (k + 1) (iv ((P ++ [t]).map fun t => (pk (hms rs) t).2))) := ⟨by
        rw [List.map_append]
        unfold iv
        rw [List.map_append]
        have e : ((List.map (fun t => (pk (hms rs) t).2) [t]).map (Value.int .i64)) = [.int .i64 id] := by simp [HID.out]
        rw [e]
        exact ho⟩
      have HNP : Shut (PQ w w9 W1 B b off (m - (k + 1)) (some ⟨g, 0, none⟩) vc (hms rs) (P ++ [t]) (R.take d) v9) := ⟨by
        have hRl : R.length = d + 1 := by rw [H3.out.1.length_eq]; exact HP.out.2.len
        have ed : m - (k + 1) = d := by omega
        rw [ed]
        refine ⟨by rw [List.length_take]; omega, ?_, H3.out.2.2.1.take, HO9.out, ?_, HB9.out⟩
        · have q := HP.out.2.out.next HP.out.2.heap HP.out.2.len H3.out.1 (by rw [H3.out.2.1, HT.out])
          rw [← HT.out] at q
          exact q
        · rw [List.length_append, HP.out.1]; exact HD9.out⟩
      have hPL : (P ++ [t]).length = k + 1 := by rw [List.length_append, hPk]; rfl
      have HPL9 := Shut.mk hPL
      obtain ⟨a9, c9, rfl⟩ := own_any HD9.out
      clear ho hg hat hLT hgs o3 b3 c3 hPL
      go_wp2_with fail
      go_roundw
      case rel => exact ⟨k + 1, by go_num, by omega, ⟨P ++ [t], R.take d, HPL9.out, HNP.out⟩⟩
      case measure => simp [intOf]; omega
    · obtain rfl : y = k := by omega
      have HFI : Shut (RR.1 = P.map fun t => (pk (hms rs) t).2) := ⟨by
        rw [HE.out]
        have q := HP.out.2.out.is
        rw [HP.out.1] at q
        dsimp only
        rw [← q, List.map_map]
        rfl⟩
      have HTR : Shut (RR.2 = true) := ⟨by rw [HE.out]⟩
      go_wp2_with fail
      go_ret2
      refine ⟨.slice av y cv, by rw [HTR.out]; rfl, ?_, HP.out.2.own.sl.bel⟩
      rw [HFI.out, List.length_map]
      exact own_base HP.out.2.ids HLT.out.2.2
end Go.Proofs.Ytoaifodmjkhiiaa
/- DrSd: A draw under way: stretches of memory, and the cursor apart from them, which turns. -/
namespace Go.Proofs.Ytoaifodmjkhiiaa
set_option maxRecDepth 100000
open Go.RowKit

/-- Only the cursor's block turns, and it stays a cursor. -/
def Dr (g B : Nat) (a : Option Addr) (len cap : Nat) (x y : World) : Prop := x.grownBy y (some g) ∧ (Cur x g B a len cap → Cur y g B a len cap)
theorem Dr.pre (g B : Nat) (a : Option Addr) (len cap : Nat) : Pre9 (Dr g B a len cap) :=
  ⟨fun _ => ⟨gb_below (Below.refl _ _), id⟩, fun h k => ⟨gb_two h.1 k.1, fun c => k.2 (h.2 c)⟩⟩
structure SD (w0 W : World) (g B : Nat) (a : Option Addr) (len cap : Nat) (S : List Str) : Prop where
  sl : SL w0 W S
  cur : Cur W g B a len cap
  far : ∀ s ∈ S, s.hi ≤ g ∨ g < s.lo
  hg : w0.heap.size ≤ g
  hB : B ≤ w0.heap.size
section
variable {w0 W W' : World} {g B len cap : Nat} {a : Option Addr} {S : List Str} {s : Str}
theorem SD.draw (h : SD w0 W g B a len cap S) (hd : Dr g B a len cap W W') : SD w0 W' g B a len cap S :=
  ⟨h.sl.grown hd.1 (fun q e => by cases e; exact ⟨h.hg, h.far⟩), hd.2 h.cur, h.far, h.hg, h.hB⟩
theorem SD.below (h : SD w0 W g B a len cap S) (hb : Below W.heap.size W W') : SD w0 W' g B a len cap S := ⟨h.sl.below hb, h.cur.below hb, h.far, h.hg, h.hB⟩
theorem SD.dr_below (_ : SD w0 W g B a len cap S) (hb : Below W.heap.size W W') : Dr g B a len cap W W' := ⟨gb_below hb, fun c => c.below hb⟩
theorem SD.add (h : SD w0 W g B a len cap S) (hb : Below W.heap.size W W') (hp : s.p W') (hl : s.Loc) (h1 : W.heap.size ≤ s.lo) (h2 : s.hi ≤ W'.heap.size) : SD w0 W' g B a len cap (s :: S) :=
  ⟨h.sl.add hb hp hl h1 h2, h.cur.below hb, fun x hx => by
    rcases List.mem_cons.1 hx with rfl | hx
    · exact .inr (by have := h.cur.2.1; omega)
    · exact h.far x hx, h.hg, h.hB⟩
theorem SD.new (h : SD w0 W g B a len cap S) (cs : Array Value) (t : TypeId) : SD w0 (W.alloc (.cells cs t)) g B a len cap (bxS W.heap.size cs.toList :: S) :=
  h.add ((Below.refl _ _).alloc (Nat.le_refl _) _) (wcells_new W cs t) (bxS.loc _ _) (Nat.le_refl _) (by simp)
theorem SD.tail (h : SD w0 W g B a len cap (s :: S)) : SD w0 W g B a len cap S := ⟨h.sl.tail, h.cur, fun x hx => h.far x (List.mem_cons_of_mem _ hx), h.hg, h.hB⟩
theorem SD.put (h : SD w0 W g B a len cap S) (i : Nat) {b : Nat} {X : List Value} (hs : S[i]? = some (bxS b X)) (j : Nat) (v : Value) (hj : j < X.length) : SD w0 (W.setCell ⟨b, j, none⟩ v) g B a len cap (S.set i (bxS b (X.set j v))) := by
  have hm := List.mem_of_getElem? hs
  have hf := h.far _ hm
  have hlo := (h.sl.is _ hm).2.2.1
  dsimp only [bxS] at hf hlo
  have hbg : b ≠ g := by omega
  refine ⟨h.sl.put i hs j v hj, ?_, fun x hx => ?_, h.hg, h.hB⟩
  · obtain ⟨h1, h2, h3, h4, ⟨k, h5, h5'⟩, ⟨q, h6⟩, h7⟩ := h.cur
    have oth : ∀ z, (W.setCell ⟨b, j, none⟩ v).cell? ⟨g, z, none⟩ = W.cell? ⟨g, z, none⟩ := fun z => World.cell?_of_block (Below.heap_setCell W ⟨b, j, none⟩ v g (fun e => hbg e.symm))
    exact ⟨h1, by simpa [World.setCell] using h2, h3.gb (gb_set W b j v) (Nat.le_trans h.hB hlo), (oth 0).trans h4, ⟨k, (oth 1).trans h5, h5'⟩, ⟨q, (oth 2).trans h6⟩, fun z hz => (World.frozen?_setCell _ _ _ _).trans (h7 z hz)⟩
  · obtain ⟨k, hk, rfl⟩ := List.getElem_of_mem hx
    rw [List.length_set] at hk
    by_cases ek : k = i
    · subst ek
      rw [List.getElem_set_self]
      exact hf
    · rw [List.getElem_set_ne (Ne.symm ek)]
      exact h.far _ (List.getElem_mem hk)
theorem SD.bx (h : SD w0 W g B a len cap S) (i : Nat) {b : Nat} {X : List Value} (hs : S[i]? = some (bxS b X)) (j : Nat) (v : Value) (hv : X[j]? = some v) : W.cell? ⟨b, j, none⟩ = some v ∧ W.frozen? ⟨b, j, none⟩ = false := h.sl.bx i hs j v hv
/-- One stretch is left out. -/
theorem SD.drop1 {t : Str} (h : SD w0 W g B a len cap (s :: t :: S)) : SD w0 W g B a len cap (s :: S) :=
  ⟨⟨h.sl.bel, fun x hx => h.sl.is x (by rcases List.mem_cons.1 hx with rfl | hx; exact List.mem_cons_self ..; exact List.mem_cons_of_mem _ (List.mem_cons_of_mem _ hx)), by
    have h1 := List.pairwise_cons.1 h.sl.apart
    exact List.pairwise_cons.2 ⟨fun x hx => h1.1 x (List.mem_cons_of_mem _ hx), (List.pairwise_cons.1 h1.2).2⟩⟩, h.cur, fun x hx => h.far x (by rcases List.mem_cons.1 hx with rfl | hx; exact List.mem_cons_self ..; exact List.mem_cons_of_mem _ (List.mem_cons_of_mem _ hx)), h.hg, h.hB⟩
theorem SD.swap {t : Str} (h : SD w0 W g B a len cap (s :: t :: S)) : SD w0 W g B a len cap (t :: s :: S) :=
  ⟨h.sl.swap, h.cur, fun x hx => h.far x (by simp only [List.mem_cons] at hx ⊢; rcases hx with h | h | h <;> simp [h]), h.hg, h.hB⟩
theorem SD.pick (h : SD w0 W g B a len cap S) (n : Int) (hn : n ≤ 9223372036854775807) : Calls Try.prog 36 #[.pointer (some ⟨g, 0, none⟩), .int .i64 n] W fun e W' => ∃ y : Int, e = .returned (.int .i64 y) ∧ 0 ≤ y ∧ (y < n ∨ y = 0) ∧ Dr g B a len cap W W' := by
  refine (l01Below_any W g B a len cap n hn h.cur).mono ?_
  rintro e w5 ⟨y, rfl, y0, y1, hc5, hg5⟩
  exact ⟨y, rfl, y0, y1, hg5, fun _ => hc5⟩
theorem SD.once (h : SD w0 W g B a len cap S) (n : Int) (hn : n ≤ 9223372036854775807) : Calls Try.prog 43 #[.pointer (some ⟨g, 0, none⟩), .int .i64 n] W fun e W' => ∃ y : Bool, e = .returned (.bool y) ∧ Dr g B a len cap W W' := by
  refine (l01Once_any W g B a len cap n hn h.cur).mono ?_
  rintro e w5 ⟨y, rfl, hc5, hg5⟩
  exact ⟨y, rfl, hg5, fun _ => hc5⟩
theorem SD.text (h : SD w0 W g B a len cap S) (n : Nat) (hn : n ≤ 5000) : Calls Try.prog 44 #[.pointer (some ⟨g, 0, none⟩), .int .i64 n] W fun e W' => ∃ t : ByteArray, e = .returned (.string t) ∧ t.size = n ∧ Dr g B a len cap W W' := by
  refine (l01Text_len W g B a len cap n hn h.cur).mono ?_
  rintro e w5 ⟨t, rfl, ht, hc5, hg5⟩
  exact ⟨t, rfl, ht, hg5, fun _ => hc5⟩
end
end Go.Proofs.Ytoaifodmjkhiiaa
/- ApRow: 'append' of a whole row, empty or not, to a row of one's own; and one element more, beside stretches. -/
namespace Go.Proofs.Ytoaifodmjkhiiaa
set_option maxRecDepth 100000
open Go.RowKit

theorem wpList_append_row {P : Program} (w : World) {ops : Array Oper} {rest : List Oper} {o : Oper} {a : Act} {Q : Exit → Act → World → Prop} (hgd : o.guard = none) (s x : Operand) (t : TypeId)
    (ho : o.op = .call { callee := .builtin .append, args := #[s, x], argTypes := #[t, t] })
    (base : Nat) (e : TypeId) (i : TypeInfo) (z : Value) (size bytes : Nat) (ht : P.underlying t = some (.slice e)) (hi : P.info? e = some i) (hz : i.zero = some z)
    (hsize : i.size = size) (hby : i.bytes = bytes) (hzs : z.cells.size = size) (hsz : 0 < size)
    (v : Value) (n : Nat) (xs : List Value) (hs : a.eval s = v) (hown : w.ownsRow base e size v n xs)
    (ra : Option Addr) (m c : Nat) (news : List Value) (hx : a.eval x = .slice ra m c) (hl : news.length = m * size) (hrow : CRow w ra news) (h1 : ∀ u ∈ news, u.oneCell' = true)
    (h63 : n + m ≤ maxLen) (hbytes : (n + m) * bytes ≤ 140737488355328) (hbase : base ≤ w.heap.size)
    (h : ∀ v' w', w'.ownsRow base e size v' (n + m) (xs ++ news) → w.grownBy w' v.ownBlock → (v'.ownBlock = v.ownBlock ∨ v'.ownBlock = some w.heap.size) → wpList P ops Q rest (a.put o.dst v') w') :
    wpList P ops Q (o :: rest) a w := by
  by_cases hm : m = 0
  · subst hm
    have hn : news = [] := List.eq_nil_of_length_eq_zero (by rw [hl]; simp)
    subst hn
    have hv : ∃ av cv, v = .slice av n cv ∧ n ≤ cv := by
      rcases hown.2 with ⟨rfl, h0⟩ | ⟨g, cap, cur, e1, _, _, h3, _⟩
      · exact ⟨none, 0, by rw [h0], by omega⟩
      · exact ⟨_, _, e1, h3⟩
    obtain ⟨av, cv, rfl, hcv⟩ := hv
    have hsrc : Src P i.size t (.slice ra 0 c) 0 [] w := by
      cases ra with
      | none => exact Src.ofNil w ht c
      | some q => exact Src.ofSlice w ht q 0 c [] (by simp) (by simp) (by simp)
    refine wpList_plain hgd fun K' hK' => ?_
    unfold Oper.wp
    simp [execOp, ho, resolve, invoke, builtin, hs, hx, run_append_nothing w t t o.type e i ht hi av n cv hcv _ hsrc, Result.andThen]
    exact hK' _ _ (h _ w (by simpa using hown) ⟨rfl, rfl, rfl, Nat.le_refl _, fun _ _ _ => rfl⟩ (.inl rfl))
  · obtain ⟨b, off, rfl, _, hc⟩ := hrow (by rw [hl]; exact Nat.mul_pos (Nat.pos_of_ne_zero hm) hsz)
    refine wpList_append_own_at _ hgd s x t ho base e i z size bytes ht hi hz hsize hby hzs hsz v n xs hs hown ⟨b, off, none⟩ m c news hx hl (fun j u hj => ?_) h1 h63 hbytes hbase (fun v' w' h2 h3 _ h5 => h v' w' h2 h3 h5)
    have e2 : (⟨b, off, none⟩ : Addr).add j = ⟨b, off + j, none⟩ := by cases j <;> simp [Addr.add]
    rw [e2]
    exact hc j u hj
end Go.Proofs.Ytoaifodmjkhiiaa
