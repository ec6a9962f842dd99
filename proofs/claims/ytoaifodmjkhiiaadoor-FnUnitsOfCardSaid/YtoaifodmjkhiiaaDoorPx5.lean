/- Texts of ours, laid one behind the other: GhM, HsA, OrM, LawPl, DrawP, SpQ, SpS, SpJ. -/
import Derived.Test.YtoaifodmjkhiiaaDoorPx4
import Derived.OwnWalk
import Derived.OpenShut
/- GhM: Hosts that are drawn, plain: seven, numbered in their order, each right, with few units. -/
namespace Go.Proofs.YtoaifodmjkhiiaaDoor
set_option maxRecDepth 100000
open Go.RowKit

def GH (hs : List HM) (m : Nat) : Prop := hs.length = 7 ∧ ∀ i (h : i < hs.length), hs[i].id = (i : Int) + 1 ∧ HGood hs[i].id hs[i].us m
theorem GH.mono {hs : List HM} {m n : Nat} (h : GH hs m) (hn : m ≤ n) : GH hs n := ⟨h.1, fun i hi => ⟨(h.2 i hi).1, (h.2 i hi).2.1, Nat.le_trans (h.2 i hi).2.2 hn⟩⟩
theorem GH.set {hs : List HM} {m n : Nat} (h : GH hs m) (k : Nat) (H : HM) (hm : m ≤ n) (hid : H.id = (k : Int) + 1) (hg : HGood H.id H.us n) : GH (hs.set k H) n := by
  refine ⟨by rw [List.length_set]; exact h.1, fun i hi => ?_⟩
  rw [List.length_set] at hi
  rw [List.getElem_set]
  split
  · rename_i e; subst e; exact ⟨hid, hg⟩
  · exact (h.mono hm).2 i hi
theorem put_any {H : HM} {m : Nat} (h : HGood H.id H.us m) (u : UnM) : (putX H u).1.id = H.id ∧ HGood (putX H u).1.id (putX H u).1.us (m + 1) := by
  obtain ⟨id, up, us⟩ := H
  cases up with
  | true =>
    obtain ⟨us', e, hg⟩ := put_good h u
    rw [e]
    exact ⟨rfl, hg⟩
  | false =>
    have e : putX ⟨id, false, us⟩ u = (⟨id, false, us⟩, false) := by unfold putX; simp
    rw [e]
    exact ⟨rfl, h.1, Nat.le_succ_of_le h.2⟩
theorem spoil_any {H : HM} {m : Nat} (h : HGood H.id H.us m) (g i p : Int) : (spoilX H g i p).1.id = H.id ∧ HGood (spoilX H g i p).1.id (spoilX H g i p).1.us m := by
  obtain ⟨id, up, us⟩ := H
  obtain ⟨us', e, hg⟩ := spoil_good h g i p
  have e2 : (spoilX ⟨id, up, us⟩ g i p).1 = ⟨id, up, us'⟩ := by
    unfold spoilX at e ⊢
    dsimp only at e ⊢
    split
    · rename_i c
      rw [if_pos c] at e
      simp only [HM.mk.injEq, true_and] at e ⊢
      exact e
    · rename_i c
      rw [if_neg c] at e
      simp only [HM.mk.injEq, true_and] at e ⊢
      exact e
  rw [e2]
  exact ⟨rfl, hg⟩
theorem good_none {id : Int} {us : List UnM} {m : Nat} (h : HGood id us m) : HGood id [] m := by
  refine ⟨?_, Nat.zero_le _⟩
  have := h.one
  unfold hostOk inI
  simp [unitsOk, this.2.1, this.2.2]
theorem GH.fit {hs : List HM} {m : Nat} (h : GH hs m) (hm : m ≤ 1000) {x : HM} (hx : x ∈ hs) : UnFits x.us ∧ unSum x.us ≤ 200000 ∧ x.us.length ≤ 1000 ∧ 1 ≤ x.id ∧ x.id ≤ 7 := by
  obtain ⟨i, hi, rfl⟩ := List.getElem_of_mem hx
  have q := (h.2 i hi).2
  have f := q.fit hm
  have l := q.2
  have o := q.one
  refine ⟨f.1, ?_, by omega, o.2.1, o.2.2⟩
  have : hs[i].us.length * 200 ≤ 1000 * 200 := Nat.mul_le_mul_right _ (by omega)
  omega
theorem hsSum_le {hs : List HM} {B : Nat} (h : ∀ x ∈ hs, x.us.length + unSum x.us ≤ B) : hsSum hs ≤ hs.length * B := by
  induction hs with
  | nil => simp [hsSum]
  | cons a hs ih =>
    have h1 := h a (List.mem_cons_self ..)
    have h2 := ih fun x hx => h x (List.mem_cons_of_mem _ hx)
    simp only [hsSum, List.length_cons, Nat.add_mul]
    omega
theorem GH.sum {hs : List HM} {m : Nat} (h : GH hs m) (hm : m ≤ 700) : hsSum hs ≤ 1048576 := by
  have q := hsSum_le (hs := hs) (B := 140700) fun x hx => by
    obtain ⟨i, hi, rfl⟩ := List.getElem_of_mem hx
    have q := (h.2 i hi).2
    have f := (q.fit (by omega)).2.1
    have l := q.2
    have : hs[i].us.length * 200 ≤ 700 * 200 := Nat.mul_le_mul_right _ (by omega)
    omega
  rw [h.1] at q
  omega
/-- Who takes a group is one of the hosts. -/
theorem plc_mem {hs : List HM} {n x : Int} (h : x ∈ (plcX hs n).1) : ∃ y ∈ hs, y.id = x := by
  unfold plcX at h
  split at h
  · obtain ⟨p, hp, rfl⟩ := List.mem_map.1 h
    have q := (ordP_perm hs).mem_iff.1 (List.mem_of_mem_take hp)
    unfold upPairs at q
    obtain ⟨y, hy, rfl⟩ := List.mem_map.1 q
    exact ⟨y, (List.mem_filter.1 hy).1, rfl⟩
  · cases h
end Go.Proofs.YtoaifodmjkhiiaaDoor
/- HsA: Rows of hosts in the laws: sizes, copies, two that are the same. -/
namespace Go.Proofs.YtoaifodmjkhiiaaDoor
set_option maxRecDepth 100000
open Go.RowKit BigFrame
attribute [local go_sem ↓] Go.wp_at_zero Go.wp_at_succ

set_option maxRecDepth 100000 in
set_option maxHeartbeats 1000000 in
theorem szHostS_any (a : Option Addr) (rs : List HoR) (cap : Nat) (left : Int) (w : World) (hr : HsRow w a rs) (hf : HsFits (hms rs)) (h0 : 0 ≤ left) (h1 : left ≤ 1048576) :
    Calls Tryd.prog 6 #[.slice a rs.length cap, .int .i64 left] w fun e w' => SzPostUn left (rs.length + hsSum (hms rs)) w e w' := by
  obtain ⟨n, hn⟩ : ∃ n, n = rs.length := ⟨_, rfl⟩
  have HN := Shut.mk hn
  have hl : n ≤ 9223372036854775807 := by rw [hn, ← hms_len]; exact hf.1
  rw [← hn]
  clear hn
  by_cases c1 : left - n < 0
  · clear hr hf
    go_enter Tryd.func6, Tryd.ntmps6
    go_wp2_with fail
    go_ret
    exact ⟨-1, rfl, by omega, by omega, Below.refl _ _⟩
  · have HR := Shut.mk hr
    have HF := Shut.mk hf
    have HML : Shut ((hms rs).length = n) := ⟨by rw [hms_len, HN.out]⟩
    clear hr hf
    go_enter Tryd.func6, Tryd.ntmps6
    go_wp2_with fail
    go_loopw [1, 5] (fun v i wr => ∃ (k : Nat) (l : Int), v = .int .i64 l ∧ i = .int .i64 k ∧ k ≤ n ∧ 0 ≤ l ∧ Shut (l + n + hsSum ((hms rs).take k) = left) ∧ Shut (Below w.heap.size w wr)) (fun _ i _ => n - (intOf i).toNat)
    case atStart => exact ⟨0, left - n, rfl, rfl, Nat.zero_le _, by omega, ⟨by simp [hsSum]⟩, ⟨Below.refl _ _⟩⟩
    case round =>
      obtain ⟨k, l, rfl, rfl, hk, hl0, HS, HB⟩ := hrel
      by_cases hlt : k < n
      · have hkr : k < rs.length := by rw [← HN.out]; exact hlt
        obtain ⟨b, off, r, rfl, hre, lb, hc⟩ := hs_at HR.out HB.out hkr
        obtain ⟨d0, d1, d2, d3⟩ := hc wr (Below.refl _ _)
        have hme : (hms rs)[k]'(by rw [hms_len]; exact hkr) = r.h := by rw [hre]; simp [hms]
        have HST : Shut (hsSum ((hms rs).take (k + 1)) = hsSum ((hms rs).take k) + (r.h.us.length + unSum r.h.us)) := ⟨by have := hsSum_take (hms rs) k (by rw [hms_len]; exact hkr); rw [hme] at this; exact this⟩
        have hl1 : l ≤ 1048576 := by have := HS.out; omega
        have HSZ := Shut.mk (fun W (hW : Below wr.heap.size wr W) => szHost_any r.h r.loc r.cap l W (d3.stays hW) (HF.out.2 r.h (by rw [← hme]; exact List.getElem_mem _)).1 hl0 hl1)
        obtain ⟨H, rl, rc⟩ := r
        obtain ⟨hid, hup, hus⟩ := H
        dsimp only [hov] at *
        obtain ⟨m, hm⟩ : ∃ m, m = hus.length := ⟨_, rfl⟩
        rw [← hm] at d2 HSZ HST
        have k0 : (0 : Int) ≤ (k : Int) := by omega
        have k1 : (k : Int) < (n : Int) := by omega
        clear hc hre hme d3 hm
        go_wp2_with fail
        refine (HSZ.out _ (Below.refl _ _)).mono ?_
        rintro e w2 ⟨r, rfl, hr1, hr2, hb2⟩
        have HB2 := Shut.mk (HB.out.trans (hb2.mono HB.out.size))
        clear hb2
        by_cases hr : r < 0
        · go_wp2_with fail
          go_ret
          exact ⟨-1, rfl, by omega, by omega, HB2.out⟩
        · have HS2 : Shut (r + n + hsSum ((hms rs).take (k + 1)) = left) := ⟨by have h1 := hr2 (by omega); have h2 := HS.out; rw [HST.out]; push_cast at h1 ⊢; omega⟩
          clear hr2
          go_wp2_with fail
          go_roundw
          case rel => exact ⟨k + 1, r, rfl, by go_num, by omega, by omega, HS2, HB2⟩
          case measure => simp [intOf]; omega
      · obtain rfl : n = k := by omega
        have HE : Shut (l + (n + hsSum (hms rs) : Nat) = left) := ⟨by have h := HS.out; rw [List.take_of_length_le (by rw [HML.out]; exact Nat.le_refl _)] at h; push_cast; omega⟩
        go_wp2_with fail
        go_ret
        exact ⟨l, rfl, by omega, fun _ => HE.out, HB.out⟩
theorem infoHost : (Tryd.prog.info? 46).map (fun i => (i.zero, i.size, i.bytes)) = some (some (.agg #[.int .i64 0, .bool false, .slice none 0 0]), 3, 40) := by kernel_rfl
set_option maxRecDepth 100000 in
set_option maxHeartbeats 4000000 in
theorem toHostS_any (a : Option Addr) (rs : List HoR) (cap : Nat) (w : World) (hm : HsRow w a rs) (hl : rs.length ≤ 1048576) (hp : ∀ r ∈ rs, r.h.us.length ≤ 1048576) :
    Calls Tryd.prog 8 #[.slice a rs.length cap] w fun e w' => HsPost (hms rs) w e w' := by
  obtain ⟨i0, hi, hz0, hz1, hz2⟩ := info_parts infoHost
  have HR := Shut.mk (And.intro hm hp)
  obtain ⟨n, hn⟩ : ∃ n, n = rs.length := ⟨_, rfl⟩
  have HN := Shut.mk hn
  rw [← hn] at hl ⊢
  clear hm hp hn
  go_enter Tryd.func8, Tryd.ntmps8
  go_wp2_with (at_make; refine wpList_make_full _ rfl _ _ 28 rfl w.heap.size 46 i0 _ 3 Tryd.underlying28 hi hz0 hz1 .i64 .i64 _ _ n rfl rfl (by omega) (by omega) ?b2 ?b3 ?b4 ?_)
  case b2 => rw [hz2]; omega
  case b3 => unfold maxLen; omega
  case b4 => omega
  intro wm hownm hgrm
  have hbm : Below w.heap.size w wm := (Below.refl _ _).grown hgrm (Nat.le_refl _) (fun j hj => by simp at hj)
  have hrow : WCells wm w.heap.size (hS (List.replicate n default)) := by
    have h := own_wcells hownm
    have e : (madeCells #[.int .i64 0, .bool false, .slice none 0 0] (n * 3)).toList = hS (List.replicate n default) := made_flat hC_len (by decide) #[.int .i64 0, .bool false, .slice none 0 0] default rfl _
    rw [e] at h; exact h
  have HTW : Shut (GW HK wm w.heap.size (List.replicate n default) w.heap.size wm.heap.size ∧ ∀ r ∈ List.replicate n (default : HoR), r.h.us.length ≤ r.cap) := ⟨⟨⟨hrow, Nat.le_refl _, hrow.1, fun r hr => .inl (by rw [List.eq_of_mem_replicate hr]; rfl), List.pairwise_iff_getElem.2 (fun i j hi hj _ h1 => absurd (by simp only [List.getElem_replicate]; rfl) h1)⟩, fun r hr => by rw [List.eq_of_mem_replicate hr]; exact Nat.le_refl _⟩⟩
  have HBM := Shut.mk hbm
  clear hownm hgrm hrow hbm
  go_wp2_with fail
  go_loopw [4] (fun i wr => ∃ (k : Nat) (gs : List HoR), i = .int .i64 k ∧ k ≤ n ∧ Shut (gs.length = n ∧ hms (gs.take k) = hms (rs.take k)) ∧ Shut (GW HK wr w.heap.size gs w.heap.size wr.heap.size ∧ ∀ r ∈ gs, r.h.us.length ≤ r.cap) ∧ Shut (Below w.heap.size w wr)) (fun i _ => n - (intOf i).toNat)
  case atStart => exact ⟨0, _, rfl, by omega, ⟨by simp, by simp⟩, HTW, HBM⟩
  case round =>
    clear HTW HBM
    obtain ⟨k, gs, rfl, hk, HG, hw, hb⟩ := hrel
    by_cases hlt : k < n
    · have hlr : k < rs.length := by have := HN.out; omega
      obtain ⟨b, off, r, rfl, hre, lb, hc⟩ := hs_at HR.out.1 hb.out hlr
      obtain ⟨d0, d1, d2, d3⟩ := hc wr (Below.refl _ _)
      have HRE : Shut (r = rs[k]) := ⟨hre⟩
      have HTO := Shut.mk (fun W (hW : Below wr.heap.size wr W) => toHost_any r.h r.loc r.cap W (d3.stays hW) (by rw [hre]; exact HR.out.2 _ (List.getElem_mem hlr)))
      unfold HoPost at HTO
      obtain ⟨H, rl, rc⟩ := r
      dsimp only [hov] at *
      obtain ⟨m, hm⟩ : ∃ m, m = H.us.length := ⟨_, rfl⟩
      rw [← hm] at d2 HTO
      have HM := Shut.mk hm
      have k0 : (0 : Int) ≤ (k : Int) := by omega
      have k1 : (k : Int) < (n : Int) := by omega
      clear hc hre d3 hm
      go_wp2_with fail
      refine (HTO.out _ (Below.refl _ _)).mono ?_
      rintro e w2 ⟨a', c', rfl, hF, hc', hb2⟩
      have hgk : k < gs.length := by have := HG.out.1; omega
      have HC := Shut.mk ((hw.out.1.host hb2 k hgk H a' c' hF hb.out.size).wide (Nat.le_refl _) (Nat.le_of_eq (setW_sz w2 w.heap.size (k * 3) (hC ⟨H, a', c'⟩)).symm))
      have HWO := Shut.mk (hw.out.1.out.below hb2 hw.out.1.out.1)
      have HB3 := Shut.mk (below_setW (hb.out.trans (hb2.mono hb.out.size)) (Nat.le_refl _) (k * 3) (hC ⟨H, a', c'⟩))
      have HCP : Shut (∀ r ∈ gs.set k ⟨H, a', c'⟩, r.h.us.length ≤ r.cap) := ⟨fun r hr => by
        rcases List.mem_or_eq_of_mem_set hr with q | rfl
        · exact hw.out.2 r q
        · show H.us.length ≤ c'; have := HM.out; omega⟩
      unfold hC at HC HB3
      dsimp only at HC HB3
      rw [setW3, ← HM.out] at HC HB3
      clear hw hb hb2 hF d0 d1 d2
      obtain ⟨c0, z0⟩ := HWO.out.2 (k * 3) _ (flat_get hC_len gs k hgk 0 (by omega))
      obtain ⟨c1, z1⟩ := HWO.out.2 (k * 3 + 1) _ (flat_get hC_len gs k hgk 1 (by omega))
      obtain ⟨c2, z2⟩ := HWO.out.2 (k * 3 + 2) _ (flat_get hC_len gs k hgk 2 (by omega))
      clear HWO
      go_wp2_with fail
      go_roundw
      case rel =>
        refine ⟨k + 1, gs.set k ⟨H, a', c'⟩, by go_num, by omega, ⟨by rw [List.length_set]; exact HG.out.1, ?_⟩, ⟨HC.out, HCP.out⟩, HB3⟩
        rw [List.take_succ_eq_append_getElem (by rw [List.length_set]; exact hgk), List.take_succ_eq_append_getElem hlr, List.take_set_of_le (Nat.le_refl _)]
        have e1 := HG.out.2
        unfold hms at e1 ⊢
        rw [List.map_append, List.map_append, e1, List.getElem_set_self, ← HRE.out]
        rfl
      case measure => simp [intOf]; omega
    · have e : hms gs = hms rs := by
        have h := HG.out.2
        rw [List.take_of_length_le (by have := HG.out.1; omega), List.take_of_length_le (by have := HN.out; omega)] at h; exact h
      have HE := Shut.mk e
      have HGL := Shut.mk HG.out.1
      clear e HG
      go_wp2_with fail
      go_ret
      exact ⟨_, n, gs, by rw [HGL.out]; rfl, HE.out, ⟨hw.out.2, .inr ⟨_, rfl, hw.out.1⟩⟩, Nat.le_of_eq HGL.out, hb.out⟩
set_option maxRecDepth 100000 in
set_option maxHeartbeats 2000000 in
theorem eqHostS_same (a b : Option Addr) (ra rb : List HoR) (ca cb : Nat) (w : World) (ha : HsRow w a ra) (hb : HsRow w b rb) (he : hms ra = hms rb) (hl : ra.length ≤ 9000000) (hp : ∀ r ∈ ra, r.h.us.length ≤ 9000000) :
    Calls Tryd.prog 12 #[.slice a ra.length ca, .slice b rb.length cb] w fun e w' => e = .returned (.bool true) ∧ Below w.heap.size w w' := by
  have hlen : rb.length = ra.length := by rw [← hms_len ra, ← hms_len rb, he]
  obtain ⟨n, hn⟩ : ∃ n, n = ra.length := ⟨_, rfl⟩
  have HN := Shut.mk (And.intro hn (hlen.trans hn.symm))
  rw [hlen, ← hn]
  rw [← hn] at hl
  have HA := Shut.mk ha
  have HB := Shut.mk hb
  have HE := Shut.mk (And.intro he hp)
  clear ha hb he hp hlen hn
  go_enter Tryd.func12, Tryd.ntmps12
  go_wp2_with fail
  go_loopw [5] (fun i wr => ∃ (k : Nat), i = .int .i64 k ∧ k ≤ n ∧ Shut (Below w.heap.size w wr)) (fun i _ => n - (intOf i).toNat)
  case atStart => exact ⟨0, rfl, Nat.zero_le _, ⟨Below.refl _ _⟩⟩
  case round =>
    obtain ⟨k, rfl, hk, HW⟩ := hrel
    by_cases hlt : k < n
    · have hka : k < ra.length := by have := HN.out.1; omega
      have hkb : k < rb.length := by have := HN.out.2; omega
      obtain ⟨b1, o1, r1, rfl, hr1, l1, hc1⟩ := hs_at HA.out HW.out hka
      obtain ⟨b2, o2, r2, rfl, hr2, l2, hc2⟩ := hs_at HB.out HW.out hkb
      have hsame : r1.h = r2.h := by
        have q : (hms ra)[k]'(by rw [hms_len]; exact hka) = (hms rb)[k]'(by rw [hms_len]; exact hkb) := by simp only [HE.out.1]
        simp only [hms, List.getElem_map] at q
        rw [hr1, hr2]
        exact q
      have hpl : r1.h.us.length ≤ 9000000 := by rw [hr1]; exact HE.out.2 _ (List.getElem_mem hka)
      have HC1 := Shut.mk hc1
      have HC2 := Shut.mk hc2
      clear hr1 hr2 hc1 hc2
      obtain ⟨H, rl1, rc1⟩ := r1
      obtain ⟨H2, rl2, rc2⟩ := r2
      dsimp only at hsame hpl HC1 HC2
      subst hsame
      have HEQ := Shut.mk (fun (x : World) (hx : Below wr.heap.size wr x) => eqHost_same H rl1 rl2 rc1 rc2 x (HC1.out x hx).2.2.2 (HC2.out x hx).2.2.2 hpl)
      obtain ⟨hid, hup, hus⟩ := H
      dsimp only [hov] at *
      obtain ⟨m, hm⟩ : ∃ m, m = hus.length := ⟨_, rfl⟩
      rw [← hm] at HEQ HC1 HC2
      have k0 : (0 : Int) ≤ (k : Int) := by omega
      have k1 : (k : Int) < (n : Int) := by omega
      clear hm hpl
      have p0 : ∀ X : Grow wr, X.val.cell? ⟨b1, o1 + k * 3, none⟩ = some (.int .i64 hid) := fun X => (HC1.out X.val X.bel).1
      have p1 : ∀ X : Grow wr, X.val.cell? ⟨b1, o1 + k * 3 + 1, none⟩ = some (.bool hup) := fun X => (HC1.out X.val X.bel).2.1
      have p2 : ∀ X : Grow wr, X.val.cell? ⟨b1, o1 + k * 3 + 2, none⟩ = some (.slice rl1 m rc1) := fun X => (HC1.out X.val X.bel).2.2.1
      have q0 : ∀ X : Grow wr, X.val.cell? ⟨b2, o2 + k * 3, none⟩ = some (.int .i64 hid) := fun X => (HC2.out X.val X.bel).1
      have q1 : ∀ X : Grow wr, X.val.cell? ⟨b2, o2 + k * 3 + 1, none⟩ = some (.bool hup) := fun X => (HC2.out X.val X.bel).2.1
      have q2 : ∀ X : Grow wr, X.val.cell? ⟨b2, o2 + k * 3 + 2, none⟩ = some (.slice rl2 m rc2) := fun X => (HC2.out X.val X.bel).2.2.1
      have HKQ := Shut.mk (fun X => calls_grow (w := wr) (fun W' (hb : Below wr.heap.size wr W') => HEQ.out W' hb) X)
      have HGR : Shut (∀ X : Grow wr, Below w.heap.size w X.val) := ⟨fun X => HW.out.trans (X.bel.mono HW.out.size)⟩
      go_wp2_with fail
      refine wp_region_grow (by kernel_rfl) (by kernel_rfl) ?_
      repeat (go_big_quiet_step (first | (go_at_call 32; with_reducible exact HKQ.out _)))
      refine wpQuiet_nil ?_
      rintro _ ⟨X, rfl⟩
      clear p0 p1 p2 q0 q1 q2
      go_wp2_with fail
      go_roundw
      case rel => exact ⟨k + 1, by go_num, by omega, ⟨HGR.out X⟩⟩
      case measure => simp [intOf]; omega
    · obtain rfl : n = k := by omega
      go_wp2_with fail
      go_ret
      exact ⟨rfl, HW.out⟩
end Go.Proofs.YtoaifodmjkhiiaaDoor
/- OrM: The order in which hosts take units, plain: an insertion of places, by load, then number, then place. -/
namespace Go.Proofs.YtoaifodmjkhiiaaDoor
set_option maxRecDepth 100000
open Go.RowKit

/-- One place ahead of another. -/
def lt3 (p : Nat → Nat × Int) (a b : Nat) : Prop := (p a).1 < (p b).1 ∨ ((p a).1 = (p b).1 ∧ ((p a).2 < (p b).2 ∨ ((p a).2 = (p b).2 ∧ a < b)))
/-- What the model asks. -/
def gt2 (p : Nat → Nat × Int) (a b : Nat) : Bool := decide ((p b).1 < (p a).1) || ((p a).1 == (p b).1 && decide ((p b).2 < (p a).2))
theorem gt2_iff (p : Nat → Nat × Int) (a b : Nat) : gt2 p a b = true ↔ (p b).1 < (p a).1 ∨ ((p a).1 = (p b).1 ∧ (p b).2 < (p a).2) := by
  unfold gt2
  simp
/-- Sorted, up to a place. -/
def Sd (p : Nat → Nat × Int) (L : List Nat) (i : Nat) : Prop := ∀ a b, a < b → b < i → lt3 p (L.getD a 0) (L.getD b 0)
/-- One is on its way, from place i to place k. -/
structure Mv (p : Nat → Nat × Int) (L : List Nat) (i k : Nat) : Prop where
  rest : ∀ a b, a < b → b ≤ i → a ≠ k → b ≠ k → lt3 p (L.getD a 0) (L.getD b 0)
  behind : ∀ b, k < b → b ≤ i → lt3 p (L.getD k 0) (L.getD b 0)
  last : ∀ a, a ≤ i → a ≠ k → L.getD a 0 < L.getD k 0
def swapL (L : List Nat) (k : Nat) : List Nat := (L.set k (L.getD (k - 1) 0)).set (k - 1) (L.getD k 0)
theorem swapL_len (L : List Nat) (k : Nat) : (swapL L k).length = L.length := by simp [swapL]
theorem swapL_at (L : List Nat) (k : Nat) (hk : 0 < k) (hl : k < L.length) (t : Nat) : (swapL L k).getD t 0 = if t = k - 1 then L.getD k 0 else if t = k then L.getD (k - 1) 0 else L.getD t 0 := by
  unfold swapL
  simp only [List.getD, List.getElem?_set, List.length_set]
  by_cases h1 : k - 1 = t
  · subst h1
    simp [show k - 1 < L.length by omega]
  · by_cases h2 : k = t
    · subst h2
      simp [hl, h1, show ¬ k = k - 1 by omega]
    · simp [h1, h2, Ne.symm h1, Ne.symm h2]
theorem swapL_perm (L : List Nat) (k : Nat) (hk : 0 < k) (hl : k < L.length) : (swapL L k).Perm L := by
  have e1 : L.getD (k - 1) 0 = L[k - 1] := by simp [List.getD, show k - 1 < L.length by omega]
  have e2 : L.getD k 0 = L[k] := by simp [List.getD, hl]
  have hL : L = L.take (k - 1) ++ L[k - 1] :: L[k] :: L.drop (k + 1) := by
    have q1 : L.drop (k - 1) = L[k - 1] :: L.drop k := by rw [List.drop_eq_getElem_cons (by omega)]; congr 1; congr 1; omega
    have q2 : L.drop k = L[k] :: L.drop (k + 1) := List.drop_eq_getElem_cons hl
    conv => lhs; rw [← List.take_append_drop (k - 1) L, q1, q2]
  have hS : swapL L k = L.take (k - 1) ++ L[k] :: L[k - 1] :: L.drop (k + 1) := by
    apply List.ext_getElem?
    intro t
    have lt : (L.take (k - 1)).length = k - 1 := by rw [List.length_take]; omega
    unfold swapL
    rw [e1, e2]
    simp only [List.getElem?_set, List.length_set]
    by_cases h5 : t < k - 1
    · rw [if_neg (by omega), if_neg (by omega), List.getElem?_append_left (by omega), List.getElem?_take, if_pos h5]
    · rw [List.getElem?_append_right (by omega), lt]
      by_cases h3 : t = k - 1
      · subst h3
        rw [if_pos rfl, if_pos (by omega), Nat.sub_self]
        rfl
      · rw [if_neg (by omega)]
        by_cases h4 : t = k
        · subst h4
          rw [if_pos rfl, if_pos hl, show t - (t - 1) = 1 by omega]
          rfl
        · rw [if_neg (by omega)]
          obtain ⟨z, hz⟩ : ∃ z, t - (k - 1) = z + 2 := ⟨t - (k - 1) - 2, by omega⟩
          rw [hz]
          simp only [List.getElem?_cons_succ, List.getElem?_drop]
          congr 1
          omega
  rw [hS]
  conv => rhs; rw [hL]
  exact List.Perm.append_left _ (List.Perm.swap _ _ _)
theorem Mv.swap {p : Nat → Nat × Int} {L : List Nat} {i k : Nat} (h : Mv p L i k) (hk : 0 < k) (hki : k ≤ i) (hl : i < L.length) (hg : gt2 p (L.getD (k - 1) 0) (L.getD k 0) = true) : Mv p (swapL L k) i (k - 1) := by
  have e := swapL_at L k hk (by omega)
  rw [gt2_iff] at hg
  refine ⟨fun a b hab hb ha9 hb9 => ?_, fun b hb hbi => ?_, fun a ha ha9 => ?_⟩
  · rw [e a, e b, if_neg ha9, if_neg hb9]
    by_cases h1 : a = k
    · subst h1
      rw [if_pos rfl, if_neg (by omega)]
      exact h.rest (a - 1) b (by omega) hb (by omega) (by omega)
    · rw [if_neg h1]
      by_cases h2 : b = k
      · subst h2
        rw [if_pos rfl]
        exact h.rest a (b - 1) (by omega) (by omega) (by omega) (by omega)
      · rw [if_neg h2]
        exact h.rest a b hab hb h1 h2
  · rw [e (k - 1), e b, if_pos rfl, if_neg (by omega)]
    by_cases h2 : b = k
    · subst h2
      rw [if_pos rfl]
      unfold lt3
      omega
    · rw [if_neg h2]
      exact h.behind b (by omega) hbi
  · rw [e (k - 1), e a, if_pos rfl, if_neg ha9]
    by_cases h2 : a = k
    · subst h2
      rw [if_pos rfl]
      exact h.last (a - 1) (by omega) (by omega)
    · rw [if_neg h2]
      exact h.last a ha h2
theorem lt3_trans {p : Nat → Nat × Int} {a b c : Nat} (h : lt3 p a b) (k : lt3 p b c) : lt3 p a c := by
  unfold lt3 at *
  omega
theorem Mv.stop {p : Nat → Nat × Int} {L : List Nat} {i k : Nat} (h : Mv p L i k) (hk : 0 < k) (hki : k ≤ i) (hg : gt2 p (L.getD (k - 1) 0) (L.getD k 0) = false) : Sd p L (i + 1) := by
  have hg2 : ¬ ((p (L.getD k 0)).1 < (p (L.getD (k - 1) 0)).1 ∨ ((p (L.getD (k - 1) 0)).1 = (p (L.getD k 0)).1 ∧ (p (L.getD k 0)).2 < (p (L.getD (k - 1) 0)).2)) := by rw [← gt2_iff, hg]; simp
  have h1 : lt3 p (L.getD (k - 1) 0) (L.getD k 0) := by
    have := h.last (k - 1) (by omega) (by omega)
    unfold lt3
    omega
  intro a b hab hb
  by_cases ha : a = k
  · subst ha
    exact h.behind b hab (by omega)
  · by_cases hb9 : b = k
    · subst hb9
      by_cases ha2 : a = b - 1
      · subst ha2; exact h1
      · exact lt3_trans (h.rest a (b - 1) (by omega) (by omega) ha (by omega)) h1
    · exact h.rest a b hab (by omega) ha hb9
theorem Mv.done {p : Nat → Nat × Int} {L : List Nat} {i : Nat} (h : Mv p L i 0) : Sd p L (i + 1) := fun a b hab hb => by
  by_cases ha : a = 0
  · subst ha; exact h.behind b hab (by omega)
  · exact h.rest a b hab (by omega) ha (by omega)
theorem Sd.quiet {p : Nat → Nat × Int} {L : List Nat} {i k : Nat} (h : Sd p L (i + 1)) (hk : 0 < k) (hki : k ≤ i) : gt2 p (L.getD (k - 1) 0) (L.getD k 0) = false := by
  have q := h (k - 1) k (by omega) (by omega)
  cases hg : gt2 p (L.getD (k - 1) 0) (L.getD k 0) with
  | false => rfl
  | true =>
    rw [gt2_iff] at hg
    unfold lt3 at q
    omega
/-- The places of hosts that are up. -/
def pk (hs : List HM) (i : Nat) : Nat × Int := keyP (hs.getD i default)
def upTo (hs : List HM) (k : Nat) : List Nat := (List.range k).filter fun i => (hs.getD i default).up
theorem upTo_step (hs : List HM) (k : Nat) : upTo hs (k + 1) = upTo hs k ++ if (hs.getD k default).up = true then [k] else [] := by
  unfold upTo
  rw [List.range_succ, List.filter_append]
  congr 1
  rw [List.filter_cons, List.filter_nil]
theorem upTo_lt (hs : List HM) (k : Nat) : ∀ x ∈ upTo hs k, x < k := fun x hx => by simpa using (List.mem_filter.1 hx).1
theorem upTo_up (hs : List HM) (k : Nat) : (upTo hs k).Pairwise (· < ·) := List.Pairwise.filter _ List.pairwise_lt_range
theorem upTo_len (hs : List HM) (k : Nat) : (upTo hs k).length ≤ k := by
  have := List.length_filter_le (fun i => (hs.getD i default).up) (List.range k)
  simpa [upTo] using this
/-- One sets out. -/
theorem mv_start {p : Nat → Nat × Int} {L U : List Nat} {i : Nat} (h : Sd p L i) (hp : L.Perm U) (hU : U.Pairwise (· < ·)) (hr : ∀ t, i ≤ t → L[t]? = U[t]?) (hi : i < L.length) : Mv p L i i := by
  refine ⟨fun a b hab hb ha9 hb9 => h a b hab (by omega), fun b hb hbi => by omega, fun a ha ha9 => ?_⟩
  have hd : L.drop i = U.drop i := by
    apply List.ext_getElem?
    intro t
    rw [List.getElem?_drop, List.getElem?_drop]
    exact hr _ (by omega)
  have ht : (L.take i).Perm (U.take i) := by
    have q : (L.take i ++ L.drop i).Perm (U.take i ++ U.drop i) := by rw [List.take_append_drop, List.take_append_drop]; exact hp
    rw [hd] at q
    exact (List.perm_append_right_iff _).1 q
  have hUi : i < U.length := by rw [← hp.length_eq]; exact hi
  have hLi : L.getD i 0 = U[i] := by
    have := hr i (Nat.le_refl _)
    rw [List.getD, this, List.getElem?_eq_getElem hUi]
    rfl
  have ha' : a < i := by omega
  have hLa : L.getD a 0 ∈ L.take i := by
    have e : L.getD a 0 = (L.take i)[a]'(by rw [List.length_take]; omega) := by rw [List.getElem_take]; simp [List.getD, show a < L.length by omega]
    rw [e]
    exact List.getElem_mem _
  have hm := ht.mem_iff.1 hLa
  obtain ⟨c, hc, e⟩ := List.getElem_of_mem hm
  rw [List.length_take] at hc
  rw [List.getElem_take] at e
  rw [hLi, ← e]
  exact List.pairwise_iff_getElem.1 hU c i (by omega) hUi (by omega)
/-- The places in their order. -/
def OrdI (hs : List HM) (L : List Nat) : Prop := Sd (pk hs) L L.length ∧ L.Perm (upTo hs hs.length)
theorem upTo_pairs (hs : List HM) : (upTo hs hs.length).map (pk hs) = upPairs hs := by
  have e : (List.range hs.length).map (fun i => hs.getD i default) = hs := by
    apply List.ext_getElem
    · simp
    · intro i h1 h2
      simp [List.getD, h2]
  unfold upPairs
  conv => rhs; rw [← e]
  rw [List.filter_map, List.map_map]
  rfl
end Go.Proofs.YtoaifodmjkhiiaaDoor
/- LawPl: The exact law of LoadOf (written by gen/mklawpl.py). -/
namespace Go.Proofs.YtoaifodmjkhiiaaDoor
set_option maxRecDepth 100000
open Go.RowKit BigFrame
attribute [local go_sem ↓] Go.wp_at_zero Go.wp_at_succ
theorem specLoadOf (H : HM) (a : Option Addr) (cap : Nat) (w : World) : Calls Tryd.prog 84 #[hov H a cap] w fun e w' => e = .returned (.int .i64 (H.us.length : Nat)) ∧ Below w.heap.size w w' := by
  obtain ⟨id, up, us⟩ := H
  dsimp only [hov]
  generalize us.length = n
  go_enter Tryd.func84, Tryd.ntmps84
  go_wp2_with fail
  go_ret
  exact ⟨rfl, (Below.refl _ _).alloc (Nat.le_refl _) _⟩
end Go.Proofs.YtoaifodmjkhiiaaDoor
/- DrawP: The draws of a text and of places: what is drawn lies within its bounds; nothing that was there is turned. -/
namespace Go.Proofs.YtoaifodmjkhiiaaDoor
set_option maxRecDepth 100000
open Go.RowKit

def SumDrawn (w : World) (e : Ending) (w' : World) : Prop := ∃ t : ByteArray, e = .returned (.string t) ∧ t.size ≤ 40 ∧ Below w.heap.size w w'
theorem infoInt : (Tryd.prog.info? 3).map (fun i => (i.zero, i.size, i.bytes)) = some (some (.int .i64 0), 1, 8) := by kernel_rfl
/-- Numbers, as the model holds them. -/
def iv (l : List Int) : List Value := l.map fun x => .int .i64 x
theorem row_step {w wr w2 w3 : World} {g B len cap n : Nat} {t : TypeId} {a : Option Addr} {v : Value} {vs : List Value} {o : Obj} (hs : w.heap.size ≤ wr.heap.size) (hgw : g < w.heap.size)
    (hg : w.grownBy wr (some g)) (hg2 : wr.grownBy w2 (some g)) (hc2 : Cur w2 g B a len cap) (hown : w2.ownsRow w.heap.size t 1 v n vs) (hgr : (w2.alloc o).grownBy w3 v.ownBlock) :
    Cur w3 g B a len cap ∧ w.grownBy w3 (some g) := by
  have hlt := hown.lt
  have h2s : wr.heap.size ≤ w2.heap.size := hg2.size
  have hb3 : Below w.heap.size w2 w3 := ((Below.refl _ _).alloc (by omega) o).grown hgr (by simp; omega) (fun j hj => (hlt j hj).1)
  refine ⟨?_, ⟨(hb3.os.trans hg2.os).trans hg.os, (hb3.tape.trans hg2.tape).trans hg.tape, (hb3.output.trans hg2.output).trans hg.output, by have := hb3.size; omega, fun k hk hn => (hb3.block k hk).trans ((hg2.block k (by omega) hn).trans (hg.block k hk hn))⟩⟩
  obtain ⟨hB, hgs, hcode, c0, ⟨i, c1, hi⟩, ⟨k, c2⟩, hf⟩ := hc2
  exact ⟨hB, by have := hb3.size; omega, hcode.below hb3 (by omega), (hb3.cell (p := ⟨g, 0, none⟩) hgw).trans c0, ⟨i, (hb3.cell (p := ⟨g, 1, none⟩) hgw).trans c1, hi⟩, ⟨k, (hb3.cell (p := ⟨g, 2, none⟩) hgw).trans c2⟩, fun j hj => (hb3.frozen (p := ⟨g, j, none⟩) hgw).trans (hf j hj)⟩
theorem own_gbr {w w' : World} {g C n : Nat} {t : TypeId} {v : Value} {vs : List Value} (h : w.ownsRow C t 1 v n vs) (hg : w.grownBy w' (some g)) (hC : g < C) : w'.ownsRow C t 1 v n vs :=
  h.kept hg (by
    cases hv : v.ownBlock with
    | none => exact .inl rfl
    | some j => right; have := (h.lt j hv).1; simp; omega)
/-- The places that are drawn: twelve numbers below 10000 in a block of their own. -/
def PlacesDrawn (w : World) (e : Ending) (w' : World) : Prop :=
  ∃ (gp cap : Nat) (l : List Int), e = .returned (.slice (some ⟨gp, 0, none⟩) 12 cap) ∧ w.heap.size ≤ gp ∧ gp < w'.heap.size ∧ l.length = 12 ∧ (∀ x ∈ l, 0 ≤ x ∧ x < 10000) ∧ (∀ j, j < 12 → w'.cell? ⟨gp, j, none⟩ = some (.int .i64 (l.getD j 0))) ∧ Below w.heap.size w w'
theorem places_post {w w1 w' : World} {g n : Nat} {v : Value} {l : List Int} (hw : w.heap.size ≤ w1.heap.size) (hl : l.length = 12) (hx : ∀ x ∈ l, 0 ≤ x ∧ x < 10000) (hn : n = 12) (hown : w'.ownsRow w1.heap.size 3 1 v n (iv l)) (hb1 : Below w.heap.size w w1) (hg : w.heap.size ≤ g) (hgb : w1.grownBy w' (some g)) :
    PlacesDrawn w (.returned v) w' := by
  subst hn
  have hlt := hown.lt
  have hc : ∀ g, v.ownBlock = some g → ∀ j u, (iv l)[j]? = some u → w'.cell? ((⟨g, 0, none⟩ : Addr).add j) = some u := fun g hg => hown.cells hg
  obtain ⟨h1, ⟨rfl, h0⟩ | ⟨gp, cap, cur, rfl, _⟩⟩ := hown
  · omega
  · have h2 := hlt gp rfl
    refine ⟨gp, cap, l, rfl, by omega, h2.2, hl, hx, fun j hj => ?_, hb1.trans (below_gb hgb hg hw)⟩
    have h3 := hc gp rfl j (.int .i64 (l.getD j 0)) (by simp [iv, List.getD, show j < l.length by omega])
    have e : (⟨gp, 0, none⟩ : Addr).add j = ⟨gp, j, none⟩ := by cases j <;> simp [Addr.add]
    rwa [e] at h3
theorem cell_block {w : World} {a : Addr} {v : Value} (h : w.cell? a = some v) : a.block < w.heap.size := by
  by_cases hb : a.block < w.heap.size
  · exact hb
  · unfold World.cell? at h
    rw [Array.getElem?_eq_none (by omega)] at h
    simp at h
theorem code_at {w : World} {a : Option Addr} {len cap : Nat} {zs : List Int} (hl : len ≤ 1048576)
    (h : (a = none ∧ len = 0) ∨ ∃ x, a = some x ∧ len ≤ cap ∧ zs.length = cap ∧ (∀ i, i < zs.length → w.cell? (x.add i) = some (.int .u8 (zs.getD i 0))) ∧ ∀ n ∈ zs, (Lit.int .u8 n).wf = true) : CodeAt w w.heap.size a len := by
  refine ⟨hl, fun hp => ?_⟩
  rcases h with ⟨_, h0⟩ | ⟨x, rfl, hlc, hz, hc, hw⟩
  · omega
  · obtain ⟨b, off, spot⟩ := x
    have hs : spot = none := by simpa [Addr.add] using World.cell?_spot (hc 0 (by omega))
    subst hs
    refine ⟨b, off, rfl, ?_, fun j hj => ?_⟩
    · have := cell_block (hc 0 (by omega)); simpa [Addr.add] using this
    · have h1 := hc j (by omega)
      have e : (⟨b, off, none⟩ : Addr).add j = ⟨b, off + j, none⟩ := by cases j <;> simp [Addr.add]
      rw [e] at h1
      have hm : zs.getD j 0 ∈ zs := by
        have : j < zs.length := by omega
        simp [List.getD, this]
      have := bounds_u8 (hw _ hm)
      exact ⟨_, h1, this.1, by omega⟩
theorem big_any (a : Option Addr) (len cap : Nat) (w : World) :
    Calls Tryd.prog 20 #[.slice a len cap] w fun e w' => e = .returned (.bool (decide ((1048576 : Int) < len))) ∧ w' = w := by
  go_enter Tryd.func20, Tryd.ntmps20
  go_wp2_with fail
  go_ret
  exact ⟨rfl, rfl⟩
end Go.Proofs.YtoaifodmjkhiiaaDoor
/- SpQ: The model's order of hosts. -/
namespace Go.Proofs.YtoaifodmjkhiiaaDoor
set_option maxRecDepth 100000
open Go.RowKit BigFrame
attribute [local go_sem ↓] Go.wp_at_zero Go.wp_at_succ

/-- Places, as the model holds them. -/
def ivN (L : List Nat) : List Value := L.map fun (x : Nat) => Value.int .i64 (x : Int)
theorem ivN_len (L : List Nat) : (ivN L).length = L.length := by simp [ivN]
theorem ivN_at (L : List Nat) (i : Nat) (h : i < L.length) : (ivN L)[i]? = some (.int .i64 (L.getD i 0 : Nat)) := by simp [ivN, List.getD, h]
theorem ivN_swap (L : List Nat) (k : Nat) : ((ivN L).set k (.int .i64 (L.getD (k - 1) 0 : Nat))).set (k - 1) (.int .i64 (L.getD k 0 : Nat)) = ivN (swapL L k) := by
  unfold ivN swapL
  rw [List.map_set, List.map_set]
def OrdPost (hs : List HM) (w : World) (e : Ending) (w' : World) : Prop := ∃ (v : Value) (L : List Nat), e = .returned v ∧ w'.ownsRow w.heap.size 3 1 v L.length (ivN L) ∧ OrdI hs L ∧ Below w.heap.size w w'
set_option maxRecDepth 100000 in
set_option maxHeartbeats 4000000 in
theorem specOrder (a : Option Addr) (rs : List HoR) (cap : Nat) (w : World) (hr : HsRow w a rs) (hl : rs.length ≤ 1048576) :
    Calls Tryd.prog 77 #[.slice a rs.length cap] w fun e w' => OrdPost (hms rs) w e w' := by
  obtain ⟨i0, hin, hz0, hz1, hz2⟩ := info_parts infoInt
  obtain ⟨n, hn⟩ : ∃ n, n = rs.length := ⟨_, rfl⟩
  have HN := Shut.mk hn
  rw [← hn] at hl ⊢
  have HR := Shut.mk hr
  obtain ⟨hs, hhs⟩ : ∃ q, q = hms rs := ⟨_, rfl⟩
  rw [← hhs]
  have HHS : Shut (hs.length = n ∧ ∀ k (hk : k < rs.length), hs.getD k default = rs[k].h) := ⟨⟨by rw [hhs, hms_len, hn], fun k hk => by rw [hhs]; simp [hms, List.getD, hk]⟩⟩
  clear hr hn hhs
  go_enter Tryd.func77, Tryd.ntmps77
  have HO0 := Shut.mk (OwS.new (ty := 3) (sz := 1) (SL.start w))
  go_upto_region 3 with fail
  go_loopw [3, 4] (fun v i9 wr => ∃ (k m : Nat) (L : List Nat), i9 = .int .i64 k ∧ k ≤ n ∧ m ≤ k ∧ Shut (L = upTo hs k ∧ m = L.length) ∧ Shut (OwS w wr [] 3 1 v m (ivN L))) (fun _ i9 _ => n - (intOf i9).toNat)
  case atStart => exact ⟨0, 0, [], rfl, Nat.zero_le _, Nat.le_refl _, ⟨rfl, rfl⟩, HO0⟩
  case round =>
    clear HO0
    obtain ⟨k, m, L, rfl, hk, hmk, HL, HW⟩ := hrel
    obtain ⟨av, cv, rfl⟩ := own_row_slice HW.out.own
    by_cases hlt : k < n
    · have hkr : k < rs.length := by rw [← HN.out]; exact hlt
      obtain ⟨b, off, r, rfl, hre, lb, hc⟩ := hs_at HR.out HW.out.sl.bel hkr
      obtain ⟨d0, d1, d2, d3⟩ := hc wr (Below.refl _ _)
      have k0 : (0 : Int) ≤ (k : Int) := by omega
      have k1 : (k : Int) < (n : Int) := by omega
      have HST : Shut (upTo hs (k + 1) = upTo hs k ++ if r.h.up = true then [k] else []) := ⟨by rw [upTo_step, HHS.out.2 k hkr, ← hre]⟩
      clear hc hre d3
      cases hup : r.h.up with
      | false =>
        rw [hup] at d1 HST
        go_wp2_with fail
        go_roundw
        case rel => exact ⟨k + 1, m, L, by go_num, by omega, by omega, ⟨by rw [HST.out]; simpa using HL.out⟩, HW⟩
        case measure => simp [intOf]; omega
      | true =>
        rw [hup] at d1 HST
        have hown := HW.out.own
        have hbs := HW.out.sl.bel.size
        go_wp2_with (at_builtin; refine wpList_append_own_at _ rfl _ _ 97 rfl w.heap.size 3 i0 (.int .i64 0) 1 8 Tryd.underlying97 hin hz0 hz1 hz2 rfl (by decide) _ _ _ rfl (hown.alloc _) ⟨wr.heap.size, 0, none⟩ 1 1 [.int .i64 (k : Int)] rfl rfl (cell_one_new _ _ _) ?c2 ?c3 ?c4 ?c5 ?_)
        case c2 => simp [Value.oneCell']
        case c3 => unfold maxLen; omega
        case c4 => omega
        case c5 => first | omega | (simp; omega)
        intro v9 w9 ho hg _ hat
        have HL9 := Shut.mk (HW.out.more ((Below.refl _ _).alloc (Nat.le_refl _) _) ho hg (by simpa using hat))
        clear ho hg hat hown hbs
        go_wp2_with fail
        go_roundw
        case rel => exact ⟨k + 1, m + 1, L ++ [k], by go_num, by omega, by omega, ⟨by rw [HST.out]; simp only [if_true]; rw [← HL.out.1], by rw [List.length_append, ← HL.out.2]; rfl⟩, ⟨by have q := HL9.out; rw [show ivN (L ++ [k]) = ivN L ++ [.int .i64 (k : Int)] by simp [ivN]]; exact q⟩⟩
        case measure => simp [intOf]; omega
    · obtain rfl : n = k := by omega
      have HUP : Shut (L.Pairwise (· < ·) ∧ ∀ x ∈ L, x < n) := ⟨by rw [HL.out.1]; exact ⟨upTo_up hs n, upTo_lt hs n⟩⟩
      obtain ⟨U, hU⟩ : ∃ U, U = L := ⟨_, rfl⟩
      have HUU : Shut (U.Pairwise (· < ·) ∧ (∀ x ∈ U, x < n) ∧ U.length = m ∧ U = upTo hs n) := ⟨by rw [hU]; exact ⟨HUP.out.1, HUP.out.2, HL.out.2.symm, HL.out.1⟩⟩
      rw [← hU] at HW
      clear HL HUP hU hlt
      go_upto_region 8 with fail
      go_loopw [5] (fun i9 wr => ∃ (i : Nat) (L : List Nat), i9 = .int .i64 i ∧ 1 ≤ i ∧ i ≤ m + 1 ∧ Shut (Sd (pk hs) L (min i m) ∧ L.Perm U ∧ (∀ t, i ≤ t → L[t]? = U[t]?)) ∧ Shut (wr.ownsRow w.heap.size 3 1 (.slice av m cv) m (ivN L) ∧ Below w.heap.size w wr)) (fun i9 _ => m + 1 - (intOf i9).toNat)
      case atStart => exact ⟨1, U, rfl, Nat.le_refl _, by omega, ⟨fun a b hab hb => by omega, List.Perm.refl _, fun t _ => rfl⟩, ⟨HW.out.own, HW.out.sl.bel⟩⟩
      case round =>
        clear HW
        obtain ⟨i, L, rfl, hi1, him, HS, HO⟩ := hrel
        by_cases hlt : i < m
        · have i1 : (i : Int) < (m : Int) := by omega
          have HLU : Shut (L.length = m ∧ ∀ x ∈ L, x < n) := ⟨⟨by rw [HS.out.2.1.length_eq]; exact HUU.out.2.2.1, fun x hx => HUU.out.2.1 x (HS.out.2.1.mem_iff.1 hx)⟩⟩
          have HMV : Shut (Mv (pk hs) L i i) := ⟨mv_start (by have q := HS.out.1; rw [Nat.min_eq_left (by omega)] at q; exact q) HS.out.2.1 HUU.out.1 HS.out.2.2 (by have := HLU.out.1; omega)⟩
          go_upto_region 11 with fail
          go_loopw [6] (fun i9 wr => ∃ (k : Nat) (L : List Nat), i9 = .int .i64 k ∧ k ≤ i ∧ Shut ((Mv (pk hs) L i k ∨ Sd (pk hs) L (i + 1)) ∧ L.Perm U ∧ (∀ t, i + 1 ≤ t → L[t]? = U[t]?)) ∧ Shut (wr.ownsRow w.heap.size 3 1 (.slice av m cv) m (ivN L) ∧ Below w.heap.size w wr)) (fun i9 _ => (intOf i9).toNat)
          case atStart => exact ⟨i, L, rfl, Nat.le_refl _, ⟨.inl HMV.out, HS.out.2.1, fun t ht => HS.out.2.2 t (by omega)⟩, HO⟩
          case round =>
            clear HO HS HLU HMV
            obtain ⟨k, L, rfl, hki, HS, HO⟩ := hrel
            by_cases hk0 : 0 < k
            · have hlen : L.length = m := by rw [HS.out.2.1.length_eq]; exact HUU.out.2.2.1
              have hkl : k < L.length := by omega
              have hk1l : k - 1 < L.length := by omega
              have hin9 : ∀ t, t < L.length → L.getD t 0 < n := fun t ht => HUU.out.2.1 _ (HS.out.2.1.mem_iff.1 (by rw [List.getD, List.getElem?_eq_getElem ht]; exact List.getElem_mem ht))
              obtain ⟨x, hx⟩ : ∃ x, x = L.getD (k - 1) 0 := ⟨_, rfl⟩
              obtain ⟨z, hz⟩ : ∃ z, z = L.getD k 0 := ⟨_, rfl⟩
              have hxn : x < rs.length := by rw [hx, ← HN.out]; exact hin9 _ hk1l
              have hzn : z < rs.length := by rw [hz, ← HN.out]; exact hin9 _ hkl
              obtain ⟨gv, rfl⟩ : ∃ gv, av = some ⟨gv, 0, none⟩ := by
                rcases HO.out.1.2 with ⟨_, e⟩ | ⟨gv, _, _, e, _⟩
                · omega
                · simp only [Value.slice.injEq] at e; exact ⟨gv, e.1⟩
              have hw0 := own_wcells HO.out.1
              obtain ⟨e0, -⟩ := hw0.2 (k - 1) _ (ivN_at L (k - 1) hk1l)
              obtain ⟨e1, -⟩ := hw0.2 k _ (ivN_at L k hkl)
              rw [← hx] at e0
              rw [← hz] at e1
              obtain ⟨b, off, r1, rfl, hr1, lb, hc1⟩ := hs_at HR.out HO.out.2 hxn
              obtain ⟨b', off', r2, e', hr2, lb', hc2⟩ := hs_at HR.out HO.out.2 hzn
              simp only [Option.some.injEq, Addr.mk.injEq, and_true] at e'
              obtain ⟨rfl, rfl⟩ := e'
              have HGT : Shut (gt2 (pk hs) x z = (decide (r2.h.us.length < r1.h.us.length) || (r1.h.us.length == r2.h.us.length && decide (r2.h.id < r1.h.id)))) := ⟨by
                unfold gt2 pk
                rw [HHS.out.2 x hxn, HHS.out.2 z hzn, ← hr1, ← hr2]
                rfl⟩
              have HYES : Shut (gt2 (pk hs) x z = true → Mv (pk hs) (swapL L k) i (k - 1)) := ⟨fun h => by
                rw [hx, hz] at h
                rcases HS.out.1 with q | q
                · exact q.swap hk0 hki (by omega) h
                · have := q.quiet hk0 hki
                  rw [h] at this
                  cases this⟩
              have HNOT : Shut (gt2 (pk hs) x z = false → Sd (pk hs) L (i + 1)) := ⟨fun h => by
                rw [hx, hz] at h
                rcases HS.out.1 with q | q
                · exact q.stop hk0 hki h
                · exact q⟩
              obtain ⟨⟨id1, up1, us1⟩, lo1, c1⟩ := r1
              obtain ⟨⟨id2, up2, us2⟩, lo2, c2⟩ := r2
              dsimp only at *
              have HLa0 := Shut.mk (fun W => specLoadOf ⟨id1, up1, us1⟩ lo1 c1 W)
              have HLb0 := Shut.mk (fun W => specLoadOf ⟨id2, up2, us2⟩ lo2 c2 W)
              dsimp only [hov] at HLa0 HLb0
              obtain ⟨l1, hl1⟩ : ∃ q, q = us1.length := ⟨_, rfl⟩
              obtain ⟨l2, hl2⟩ : ∃ q, q = us2.length := ⟨_, rfl⟩
              rw [← hl1] at hc1 HLa0 HGT
              rw [← hl2] at hc2 HLb0 HGT
              have HC1 := Shut.mk hc1
              have HC2 := Shut.mk hc2
              obtain ⟨d0, d1, d2, -⟩ := hc1 wr (Below.refl _ _)
              have HWO0 : Shut (OwS w wr [] 3 1 (.slice (some ⟨gv, 0, none⟩) m cv) m (ivN L)) := ⟨⟨⟨HO.out.2, fun s h => (by cases h), .nil⟩, HO.out.1, fun q e s h => (by cases h)⟩⟩
              have HWO1 := Shut.mk (HWO0.out.box #[.int .i64 id1, .bool up1, .slice lo1 l1 c1] 46)
              have k0 : (0 : Int) ≤ (k : Int) := by omega
              have k1 : (k : Int) < (m : Int) := by omega
              have km : (k : Int) - 1 = ((k - 1 : Nat) : Int) := by omega
              have k2 : (0 : Int) ≤ ((k - 1 : Nat) : Int) := by omega
              have k3 : ((k - 1 : Nat) : Int) < (m : Int) := by omega
              have x0 : (0 : Int) ≤ (x : Int) := by omega
              have x1 : (x : Int) < (n : Int) := by have := HN.out; omega
              have z0 : (0 : Int) ≤ (z : Int) := by omega
              have z1 : (z : Int) < (n : Int) := by have := HN.out; omega
              have hkp : (0 : Int) < (k : Int) := by omega
              have hkp2 : 0 < k := hk0
              have HX9 := Shut.mk hx
              have HZ9 := Shut.mk hz
              clear hw0 hc1 hc2 hr1 hr2 hl1 hl2 hin9 hx hz
              obtain ⟨bb1, hbb1⟩ : ∃ q, q = wr.heap.size := ⟨_, rfl⟩
              rw [← hbb1] at HWO1
              go_upto_region 14 with fail
              refine wp_shade (fun W => OwS w W [bxS bb1 [.int .i64 id1, .bool up1, .slice lo1 l1 c1]] 3 1 (.slice (some ⟨gv, 0, none⟩) m cv) m (ivN L) ∧ Below wr.heap.size wr W) ⟨HWO1.out, (Below.refl _ _).alloc (Nat.le_refl _) _⟩ ?_
              intro W14 hW
              rw [← hbb1]
              have HWO1 := Shut.mk hW.1
              have HBW := Shut.mk hW.2
              clear hW HWO0 hbb1 d0 d1 d2 e0 e1
              obtain ⟨d0, d1, d2, -⟩ := HC2.out W14 HBW.out
              have hw1 := own_wcells HWO1.out.own
              obtain ⟨e1, -⟩ := hw1.2 k _ (ivN_at L k hkl)
              rw [← HZ9.out] at e1
              clear hw1
              have HWO2 := Shut.mk (HWO1.out.box #[.int .i64 id2, .bool up2, .slice lo2 l2 c2] 46)
              obtain ⟨bb2, hbb2⟩ : ∃ q, q = W14.heap.size := ⟨_, rfl⟩
              rw [← hbb2] at HWO2
              go_upto_region 15 with fail
              refine wp_shade (fun W => OwS w W [bxS bb2 [.int .i64 id2, .bool up2, .slice lo2 l2 c2], bxS bb1 [.int .i64 id1, .bool up1, .slice lo1 l1 c1]] 3 1 (.slice (some ⟨gv, 0, none⟩) m cv) m (ivN L)) HWO2.out ?_
              intro W15 hW
              rw [← hbb2]
              have HW2 := Shut.mk hW
              have HWO := Shut.mk hW.tail.tail
              clear hW HWO1 HWO2 hbb2 d0 d1 d2 e1 HBW
              have lb1 : bb1 < W15.heap.size := (HW2.out.sl.at 1 rfl).1
              have lb2 : bb2 < W15.heap.size := (HW2.out.sl.at 0 rfl).1
              have p0 : ∀ X : Grow W15, X.val.cell? ⟨bb1, 0, none⟩ = some (.int .i64 id1) := fun X => X.cell (HW2.out.sl.bx 1 rfl 0 _ rfl).1 lb1
              have p1 : ∀ X : Grow W15, X.val.cell? ⟨bb1, 1, none⟩ = some (.bool up1) := fun X => X.cell (HW2.out.sl.bx 1 rfl 1 _ rfl).1 lb1
              have p2 : ∀ X : Grow W15, X.val.cell? ⟨bb1, 2, none⟩ = some (.slice lo1 l1 c1) := fun X => X.cell (HW2.out.sl.bx 1 rfl 2 _ rfl).1 lb1
              have q0 : ∀ X : Grow W15, X.val.cell? ⟨bb2, 0, none⟩ = some (.int .i64 id2) := fun X => X.cell (HW2.out.sl.bx 0 rfl 0 _ rfl).1 lb2
              have q1 : ∀ X : Grow W15, X.val.cell? ⟨bb2, 1, none⟩ = some (.bool up2) := fun X => X.cell (HW2.out.sl.bx 0 rfl 1 _ rfl).1 lb2
              have q2 : ∀ X : Grow W15, X.val.cell? ⟨bb2, 2, none⟩ = some (.slice lo2 l2 c2) := fun X => X.cell (HW2.out.sl.bx 0 rfl 2 _ rfl).1 lb2
              have HLa := Shut.mk (fun X => calls_grow (w := W15) (fun W' (_ : Below W15.heap.size W15 W') => HLa0.out W') X)
              have HLb := Shut.mk (fun X => calls_grow (w := W15) (fun W' (_ : Below W15.heap.size W15 W') => HLb0.out W') X)
              by_cases g1 : l2 < l1
              case pos =>
                have g1d : decide ((l2 : Int) < (l1 : Int)) = true := by simp; omega
                have g1e : decide (l2 < l1) = true := by simpa using g1
                have HG : Shut (gt2 (pk hs) x z = true) := ⟨by rw [HGT.out, g1e]; rfl⟩
                refine wp_region_grow (by kernel_rfl) (by kernel_rfl) ?_
                repeat (go_big_quiet_step (first | (go_at_call 84; first | with_reducible exact HLa.out _ | with_reducible exact HLb.out _)))
                refine wpQuiet_nil ?_
                rintro _ ⟨X, rfl⟩
                have HOX := Shut.mk (HWO.out.below X.bel)
                clear p0 p1 p2 q0 q1 q2
                obtain ⟨X, hX⟩ := X
                dsimp only at *
                have hwX := own_wcells HOX.out.own
                obtain ⟨f0, f0z⟩ := hwX.2 (k - 1) _ (ivN_at L (k - 1) hk1l)
                obtain ⟨f1, f1z⟩ := hwX.2 k _ (ivN_at L k hkl)
                rw [← HX9.out] at f0
                rw [← HZ9.out] at f1
                have hwY := hwX.set k (.int .i64 (x : Int)) (by rw [ivN_len]; exact hkl)
                obtain ⟨y0, y0z⟩ := hwY.2 (k - 1) (.int .i64 (x : Int)) (by rw [List.getElem?_set_ne (by omega), ivN_at L (k - 1) hk1l, ← HX9.out])
                have HNO := Shut.mk (((HOX.out.own.stored k (.int .i64 (x : Int))).1.stored (k - 1) (.int .i64 (z : Int))).1)
                rw [HX9.out, HZ9.out, ivN_swap, ← HX9.out, ← HZ9.out] at HNO
                have HBO : Shut (Below w.heap.size w ((X.setCell ⟨gv, k, none⟩ (.int .i64 (x : Int))).setCell ⟨gv, k - 1, none⟩ (.int .i64 (z : Int)))) := ⟨by
                  have hg := (HOX.out.own.lt gv rfl).1
                  exact (HOX.out.sl.bel.grown (gb_set' X gv k _) HOX.out.sl.bel.size (fun q e => by cases e; exact hg)).grown (gb_set' _ gv (k - 1) _) (by have := HOX.out.sl.bel.size; simp [World.setCell]; exact this) (fun q e => by cases e; exact hg)⟩
                clear hwX hwY
                go_wp2_with fail
                go_roundw
                case rel => exact ⟨k - 1, swapL L k, congrArg (Value.int .i64) (by omega), by omega, ⟨.inl (HYES.out HG.out), (swapL_perm L k hk0 hkl).trans HS.out.2.1, fun t ht => by
                  have q := swapL_at L k hk0 hkl t
                  have e1 : (swapL L k)[t]? = L[t]? := by
                    unfold swapL
                    rw [List.getElem?_set_ne (by omega), List.getElem?_set_ne (by omega)]
                  rw [e1]
                  exact HS.out.2.2 t ht⟩, ⟨HNO.out, HBO.out⟩⟩
                case measure => simp [intOf]; omega
              have g1d : decide ((l2 : Int) < (l1 : Int)) = false := by simp; omega
              have g1e : decide (l2 < l1) = false := by simpa using g1
              by_cases g2 : l1 = l2
              case neg =>
                have g2d : ((l1 : Int) == (l2 : Int)) = false := by simp; omega
                have g2e : (l1 == l2) = false := by simpa using g2
                have HG : Shut (gt2 (pk hs) x z = false) := ⟨by rw [HGT.out, g1e, g2e]; rfl⟩
                clear g2
                refine wp_region_grow (by kernel_rfl) (by kernel_rfl) ?_
                repeat (go_big_quiet_step (first | (go_at_call 84; first | with_reducible exact HLa.out _ | with_reducible exact HLb.out _)))
                refine wpQuiet_nil ?_
                rintro _ ⟨X, rfl⟩
                have HOX := Shut.mk (HWO.out.below X.bel)
                clear p0 p1 p2 q0 q1 q2
                go_wp2_with fail
                go_roundw
                case rel => exact ⟨k - 1, L, congrArg (Value.int .i64) (by omega), by omega, ⟨.inr (HNOT.out HG.out), HS.out.2⟩, ⟨HOX.out.own, HOX.out.sl.bel⟩⟩
                case measure => simp [intOf]; omega
              have g2d : ((l1 : Int) == (l2 : Int)) = true := by simp; omega
              have g2e : (l1 == l2) = true := by simpa using g2
              clear g2
              by_cases g3 : id2 < id1
              case pos =>
                have g3d : decide (id2 < id1) = true := by simpa using g3
                have HG : Shut (gt2 (pk hs) x z = true) := ⟨by rw [HGT.out, g1e, g2e, g3d]; rfl⟩
                refine wp_region_grow (by kernel_rfl) (by kernel_rfl) ?_
                repeat (go_big_quiet_step (first | (go_at_call 84; first | with_reducible exact HLa.out _ | with_reducible exact HLb.out _)))
                refine wpQuiet_nil ?_
                rintro _ ⟨X, rfl⟩
                have HOX := Shut.mk (HWO.out.below X.bel)
                clear p0 p1 p2 q0 q1 q2
                obtain ⟨X, hX⟩ := X
                dsimp only at *
                have hwX := own_wcells HOX.out.own
                obtain ⟨f0, f0z⟩ := hwX.2 (k - 1) _ (ivN_at L (k - 1) hk1l)
                obtain ⟨f1, f1z⟩ := hwX.2 k _ (ivN_at L k hkl)
                rw [← HX9.out] at f0
                rw [← HZ9.out] at f1
                have hwY := hwX.set k (.int .i64 (x : Int)) (by rw [ivN_len]; exact hkl)
                obtain ⟨y0, y0z⟩ := hwY.2 (k - 1) (.int .i64 (x : Int)) (by rw [List.getElem?_set_ne (by omega), ivN_at L (k - 1) hk1l, ← HX9.out])
                have HNO := Shut.mk (((HOX.out.own.stored k (.int .i64 (x : Int))).1.stored (k - 1) (.int .i64 (z : Int))).1)
                rw [HX9.out, HZ9.out, ivN_swap, ← HX9.out, ← HZ9.out] at HNO
                have HBO : Shut (Below w.heap.size w ((X.setCell ⟨gv, k, none⟩ (.int .i64 (x : Int))).setCell ⟨gv, k - 1, none⟩ (.int .i64 (z : Int)))) := ⟨by
                  have hg := (HOX.out.own.lt gv rfl).1
                  exact (HOX.out.sl.bel.grown (gb_set' X gv k _) HOX.out.sl.bel.size (fun q e => by cases e; exact hg)).grown (gb_set' _ gv (k - 1) _) (by have := HOX.out.sl.bel.size; simp [World.setCell]; exact this) (fun q e => by cases e; exact hg)⟩
                clear hwX hwY
                go_wp2_with fail
                go_roundw
                case rel => exact ⟨k - 1, swapL L k, congrArg (Value.int .i64) (by omega), by omega, ⟨.inl (HYES.out HG.out), (swapL_perm L k hk0 hkl).trans HS.out.2.1, fun t ht => by
                  have q := swapL_at L k hk0 hkl t
                  have e1 : (swapL L k)[t]? = L[t]? := by
                    unfold swapL
                    rw [List.getElem?_set_ne (by omega), List.getElem?_set_ne (by omega)]
                  rw [e1]
                  exact HS.out.2.2 t ht⟩, ⟨HNO.out, HBO.out⟩⟩
                case measure => simp [intOf]; omega
              have g3d : decide (id2 < id1) = false := by simpa using g3
              have HG : Shut (gt2 (pk hs) x z = false) := ⟨by rw [HGT.out, g1e, g2e, g3d]; rfl⟩
              refine wp_region_grow (by kernel_rfl) (by kernel_rfl) ?_
              repeat (go_big_quiet_step (first | (go_at_call 84; first | with_reducible exact HLa.out _ | with_reducible exact HLb.out _)))
              refine wpQuiet_nil ?_
              rintro _ ⟨X, rfl⟩
              have HOX := Shut.mk (HWO.out.below X.bel)
              clear p0 p1 p2 q0 q1 q2
              go_wp2_with fail
              go_roundw
              case rel => exact ⟨k - 1, L, congrArg (Value.int .i64) (by omega), by omega, ⟨.inr (HNOT.out HG.out), HS.out.2⟩, ⟨HOX.out.own, HOX.out.sl.bel⟩⟩
              case measure => simp [intOf]; omega
            · obtain rfl : k = 0 := by omega
              have HSD : Shut (Sd (pk hs) L (i + 1)) := ⟨by rcases HS.out.1 with h | h; exact h.done; exact h⟩
              go_wp2_with fail
              go_roundw
              case rel => exact ⟨i + 1, L, by go_num, by omega, by omega, ⟨by rw [Nat.min_eq_left (by omega)]; exact HSD.out, HS.out.2.1, HS.out.2.2⟩, HO⟩
              case measure => simp [intOf]; omega
        · have HE : Shut (OrdI hs L ∧ L.length = m) := ⟨by
            have q := HS.out.1
            rw [Nat.min_eq_right (by omega)] at q
            have hlm : L.length = m := by rw [HS.out.2.1.length_eq]; exact HUU.out.2.2.1
            refine ⟨⟨by rw [hlm]; exact q, ?_⟩, hlm⟩
            have e := HUU.out.2.2.2
            rw [HHS.out.1, ← e]
            exact HS.out.2.1⟩
          go_wp2_with fail
          go_ret
          exact ⟨_, L, rfl, by rw [HE.out.2]; exact HO.out.1, HE.out.1, HO.out.2⟩
end Go.Proofs.YtoaifodmjkhiiaaDoor
/- SpS: The model's PlaceGroup. -/
namespace Go.Proofs.YtoaifodmjkhiiaaDoor
set_option maxRecDepth 100000
open Go.RowKit BigFrame
attribute [local go_sem ↓] Go.wp_at_zero Go.wp_at_succ

theorem ord_pairs {hs : List HM} {L : List Nat} (h : OrdI hs L) : L.map (pk hs) = ordP hs := by
  refine ordP_of ?_ ?_
  · rw [← upTo_pairs]
    exact h.2.map _
  · rw [List.pairwise_map]
    refine List.pairwise_iff_getElem.2 fun a b ha hb hab => ?_
    have q := h.1 a b hab hb
    have e1 : L.getD a 0 = L[a] := by simp [List.getD, ha]
    have e2 : L.getD b 0 = L[b] := by simp [List.getD, hb]
    rw [e1, e2] at q
    rw [plLe_iff]
    unfold lt3 at q
    omega
theorem own_base {W : World} {B B' t sz n : Nat} {v : Value} {L : List Value} (h : W.ownsRow B t sz v n L) (hB : B' ≤ B) : W.ownsRow B' t sz v n L :=
  ⟨h.1, h.2.imp id fun ⟨g, c, cur, e, hb, r⟩ => ⟨g, c, cur, e, Nat.le_trans hB hb, r⟩⟩
def PlcPost (r : List Int × Bool) (w : World) (e : Ending) (w' : World) : Prop := ∃ v, e = .returned (.tuple #[v, .bool r.2]) ∧ w'.ownsRow w.heap.size 3 1 v r.1.length (iv r.1) ∧ Below w.heap.size w w'
set_option maxRecDepth 100000 in
set_option maxHeartbeats 2000000 in
theorem specPlaceGroup (a : Option Addr) (rs : List HoR) (cap : Nat) (x : Int) (w : World) (hr : HsRow w a rs) (hl : rs.length ≤ 1048576) :
    Calls Tryd.prog 61 #[.slice a rs.length cap, .int .i64 x] w fun e w' => PlcPost (plcX (hms rs) x) w e w' := by
  obtain ⟨i0, hin, hz0, hz1, hz2⟩ := info_parts infoInt
  have HOD := Shut.mk (specOrder a rs cap w hr hl)
  obtain ⟨n, hn⟩ : ∃ n, n = rs.length := ⟨_, rfl⟩
  have HN := Shut.mk hn
  have HR := Shut.mk hr
  obtain ⟨hs, hhs⟩ : ∃ q, q = hms rs := ⟨_, rfl⟩
  rw [← hhs]
  rw [← hhs] at HOD
  have HHS : Shut (hs.length = n ∧ ∀ k (hk : k < rs.length), hs.getD k default = rs[k].h) := ⟨⟨by rw [hhs, hms_len, hn], fun k hk => by rw [hhs]; simp [hms, List.getD, hk]⟩⟩
  rw [← hn] at HOD hl ⊢
  clear hr hn hhs
  obtain ⟨RR, hRR⟩ : ∃ q, q = plcX hs x := ⟨_, rfl⟩
  rw [← hRR]
  have HQ := Shut.mk hRR
  clear hRR
  go_enter Tryd.func61, Tryd.ntmps61
  go_upto_region 2 with (go_at_call 77; refine HOD.out.mono ?_; rintro e w1 ⟨v1, L, rfl, ho1, hod, hb1⟩; have HO1 := Shut.mk (And.intro ho1 hb1); have HI := Shut.mk hod; clear ho1 hb1 hod)
  obtain ⟨av, cv, rfl⟩ := own_row_slice HO1.out.1
  obtain ⟨m, hm⟩ : ∃ m, m = L.length := ⟨_, rfl⟩
  rw [← hm]
  rw [← hm] at HO1
  have HM := Shut.mk hm
  have HLN : Shut (∀ y ∈ L, y < n) := ⟨fun y hy => by have q := upTo_lt hs hs.length y (HI.out.2.mem_iff.1 hy); rw [HHS.out.1] at q; exact q⟩
  have hmn : m ≤ n := by
    have q := HI.out.2.length_eq
    have q2 := upTo_len hs hs.length
    have := HHS.out.1
    omega
  have HPR : Shut (ordP hs = L.map (pk hs) ∧ (ordP hs).length = m) := ⟨by rw [← ord_pairs HI.out]; exact ⟨rfl, by rw [List.length_map, hm]⟩⟩
  have HO2 : Shut (OwS w1 (w1.alloc (.cells #[] 3)) [] 3 1 (.slice (some ⟨w1.heap.size, 0, none⟩) 0 0) 0 []) := ⟨OwS.new (SL.start w1)⟩
  have HBB : Shut (∀ W, Below w1.heap.size w1 W → Below w.heap.size w W) := ⟨fun W h => HO1.out.2.trans (h.mono HO1.out.2.size)⟩
  have HWS : Shut (w.heap.size ≤ w1.heap.size) := ⟨HO1.out.2.size⟩
  have HRW : Shut (CRow w1 av (ivN L)) := ⟨(FRw.of_own HO1.out.1).1.crow⟩
  clear hm
  by_cases hx0 : x < 0
  case pos =>
    have HE : Shut (RR = ([], false)) := ⟨by rw [HQ.out]; unfold plcX; rw [if_neg (by omega)]⟩
    go_wp2_with fail
    go_ret2
    refine ⟨_, by rw [HE.out]; rfl, by rw [HE.out]; exact own_base HO2.out.own HWS.out, HBB.out _ HO2.out.sl.bel⟩
  by_cases hxm : (m : Int) < x
  case pos =>
    have HE : Shut (RR = ([], false)) := ⟨by rw [HQ.out]; unfold plcX; rw [HPR.out.2, if_neg (by omega)]⟩
    go_wp2_with fail
    go_ret2
    refine ⟨_, by rw [HE.out]; rfl, by rw [HE.out]; exact own_base HO2.out.own HWS.out, HBB.out _ HO2.out.sl.bel⟩
  obtain ⟨y, rfl⟩ := Int.eq_ofNat_of_zero_le (show 0 ≤ x by omega)
  have hym : y ≤ m := by omega
  have HE : Shut (RR = (((L.take y).map fun t => (pk hs t).2), true)) := ⟨by
    rw [HQ.out]
    unfold plcX
    rw [HPR.out.2, if_pos ⟨by omega, by omega⟩, HPR.out.1, Int.toNat_natCast, ← List.map_take, List.map_map]
    rfl⟩
  have hxm2 : ¬ (m : Int) < (y : Int) := by omega
  clear hxm HQ
  go_upto_region 6 with fail
  go_loopw [7, 8] (fun v i9 wr => ∃ (k : Nat), i9 = .int .i64 k ∧ k ≤ y ∧ Shut (OwS w1 wr [] 3 1 v k (iv ((L.take k).map fun t => (pk hs t).2)))) (fun _ i9 _ => y - (intOf i9).toNat)
  case atStart => exact ⟨0, rfl, Nat.zero_le _, HO2⟩
  case round =>
    clear HO2
    obtain ⟨k, rfl, hk, HW⟩ := hrel
    obtain ⟨av2, cv2, rfl⟩ := own_row_slice HW.out.own
    by_cases hlt : k < y
    · have hkl : k < L.length := by have := HM.out; omega
      obtain ⟨b1, o1, e1, lb1, hc1⟩ := (HRW.out.stays HW.out.sl.bel) (by rw [ivN_len]; omega)
      have hck := hc1 k _ (ivN_at L k hkl)
      obtain ⟨t, ht⟩ : ∃ t, t = L.getD k 0 := ⟨_, rfl⟩
      rw [← ht] at hck
      have htm : t ∈ L := by rw [ht, List.getD, List.getElem?_eq_getElem hkl]; exact List.getElem_mem hkl
      have htn : t < rs.length := by rw [← HN.out]; exact HLN.out t htm
      obtain ⟨b, off, r, e2, hre, lb, hc⟩ := hs_at HR.out (HBB.out _ HW.out.sl.bel) htn
      obtain ⟨d0, d1, d2, d3⟩ := hc wr (Below.refl _ _)
      have HNX : Shut (iv ((L.take (k + 1)).map fun t => (pk hs t).2) = iv ((L.take k).map fun t => (pk hs t).2) ++ [.int .i64 r.h.id]) := ⟨by
        have e3 : L[k] = t := by rw [ht, List.getD, List.getElem?_eq_getElem hkl]; rfl
        have e4 : (pk hs t).2 = r.h.id := by unfold pk; rw [HHS.out.2 t htn, ← hre]; rfl
        rw [List.take_succ_eq_append_getElem hkl, List.map_append, e3]
        unfold iv
        rw [List.map_append]
        simp [e4]⟩
      subst e1
      subst e2
      have k0 : (0 : Int) ≤ (k : Int) := by omega
      have k1 : (k : Int) < (m : Int) := by omega
      have k2 : (k : Int) < (y : Int) := by omega
      have t0 : (0 : Int) ≤ (t : Int) := by omega
      have t1 : (t : Int) < (n : Int) := by have := HN.out; omega
      have hown := HW.out.own
      have hbs := HW.out.sl.bel.size
      clear hc1 hc hre d1 d2 d3 ht htm
      go_wp2_with (at_builtin; refine wpList_append_own_at _ rfl _ _ 97 rfl w1.heap.size 3 i0 (.int .i64 0) 1 8 Tryd.underlying97 hin hz0 hz1 hz2 rfl (by decide) _ _ _ rfl (hown.alloc _) ⟨wr.heap.size, 0, none⟩ 1 1 [.int .i64 r.h.id] rfl rfl (cell_one_new _ _ _) ?c2 ?c3 ?c4 ?c5 ?_)
      case c2 => simp [Value.oneCell']
      case c3 => unfold maxLen; omega
      case c4 => omega
      case c5 => first | omega | (simp; omega)
      intro v9 w9 ho hg _ hat
      have HL9 := Shut.mk (HW.out.more ((Below.refl _ _).alloc (Nat.le_refl _) _) ho hg (by simpa using hat))
      rw [← List.map_take, ← HNX.out] at HL9
      clear ho hg hat hown hbs
      go_wp2_with fail
      go_roundw
      case rel => exact ⟨k + 1, by go_num, by omega, HL9⟩
      case measure => simp [intOf]; omega
    · obtain rfl : y = k := by omega
      go_wp2_with fail
      go_ret2
      refine ⟨_, by rw [HE.out]; rfl, ?_, HBB.out _ HW.out.sl.bel⟩
      rw [HE.out]
      have q := HW.out.own
      have e : ((L.take y).map fun t => (pk hs t).2).length = y := by rw [List.length_map, List.length_take]; have := HM.out; omega
      dsimp only
      rw [e]
      exact own_base q HWS.out
end Go.Proofs.YtoaifodmjkhiiaaDoor
/- SpJ: The model's GetUnit. -/
namespace Go.Proofs.YtoaifodmjkhiiaaDoor
set_option maxRecDepth 100000
open Go.RowKit BigFrame
attribute [local go_sem ↓] Go.wp_at_zero Go.wp_at_succ

theorem idx_lt {us : List UnM} {g i : Int} (h : unIdx us g i < us.length) : atN us g i = (unIdx us g i : Int) := by unfold atN; rw [if_pos h]
theorem idx_no {us : List UnM} {g i : Int} (h : ¬ unIdx us g i < us.length) : atN us g i = -1 := by unfold atN; rw [if_neg h]
/-- The unit at a place, in every later world. -/
theorem un_at {w W : World} {a : Option Addr} {us : List UnM} (hr : UnRow w a us) (hb : Below w.heap.size w W) {k : Nat} (hk : k < us.length) : ∃ b off u, a = some ⟨b, off, none⟩ ∧ u = us[k] ∧ b < w.heap.size ∧ ∀ X, Below W.heap.size W X → X.cell? ⟨b, off + k * 4, none⟩ = some (.int .i64 u.group) ∧ X.cell? ⟨b, off + k * 4 + 1, none⟩ = some (.int .i64 u.index) ∧ X.cell? ⟨b, off + k * 4 + 2, none⟩ = some (.string u.text) ∧ X.cell? ⟨b, off + k * 4 + 3, none⟩ = some (.int .i64 u.sum) := by
  obtain ⟨b, off, e, lb, _⟩ := UnRow.at hr (by omega)
  refine ⟨b, off, us[k], e, rfl, lb, fun X hX => ?_⟩
  obtain ⟨b', off', e', _, hc⟩ := UnRow.at (hr.stays (hb.trans (hX.mono hb.size))) (by omega)
  rw [e] at e'
  simp only [Option.some.injEq, Addr.mk.injEq, and_true] at e'
  obtain ⟨rfl, rfl⟩ := e'
  exact hc k hk
set_option maxRecDepth 100000 in
set_option maxHeartbeats 2000000 in
theorem specGetUnit (H : HM) (a : Option Addr) (cap : Nat) (g i : Int) (w : World) (hr : UnRow w a H.us) (hl : H.us.length ≤ 1048576) (hz : unSum H.us ≤ 1048576) :
    Calls Tryd.prog 22 #[hov H a cap, .int .i64 g, .int .i64 i] w fun e w' => e = .returned (.tuple #[.string (getX H g i).1, .bool (getX H g i).2]) ∧ Below w.heap.size w w' := by
  have HS0 := Shut.mk ((SL.start w).new #[.int .i64 H.id, .bool H.up, .slice a H.us.length cap] 46)
  have HR := Shut.mk hr
  have HA := Shut.mk (fun (W : World) (hb : Below w.heap.size w W) => specAt14 H a cap g i W (hr.stays hb) hl)
  have HZ : Shut (∀ u ∈ H.us, u.text.size ≤ 1048576) := ⟨fun u hu => by have := unSum_mem hu; omega⟩
  clear hr hz
  obtain ⟨id, up, us⟩ := H
  obtain ⟨R, hR⟩ : ∃ R, R = getX ⟨id, up, us⟩ g i := ⟨_, rfl⟩
  rw [← hR]
  obtain ⟨t0, b0⟩ := R
  have HQ := Shut.mk hR
  clear hR
  show Calls Tryd.prog 22 #[.agg #[.int .i64 id, .bool up, .slice a us.length cap], .int .i64 g, .int .i64 i] w fun e w' => e = .returned (.tuple #[.string t0, .bool b0]) ∧ Below w.heap.size w w'
  dsimp only [hov] at *
  obtain ⟨n, hn⟩ : ∃ n, n = us.length := ⟨_, rfl⟩
  have HN := Shut.mk hn
  rw [← hn] at HS0 HA hl ⊢
  clear hn
  obtain ⟨ki, hki⟩ : ∃ q, q = atN us g i := ⟨_, rfl⟩
  rw [← hki] at HA
  have HK := Shut.mk hki
  clear hki
  go_enter Tryd.func22, Tryd.ntmps22
  go_upto_region 1 with fail
  refine wp_shade (fun W => SL w W [bxS w.heap.size [.int .i64 id, .bool up, .slice a n cap]]) HS0.out ?_
  intro W0 hW
  have HW := Shut.mk hW
  clear HS0 hW
  have x0 := (HW.out.bx 0 rfl 0 _ rfl).1
  have x1 := (HW.out.bx 0 rfl 1 _ rfl).1
  have x2 := (HW.out.bx 0 rfl 2 _ rfl).1
  go_upto_region 2 with (go_at_call 37; refine (HA.out _ HW.out.bel).mono ?_; rintro e w1 ⟨rfl, hb⟩; replace HW := Shut.mk (HW.out.below hb); clear hb x0 x1 x2)
  have lw := (show WCells w1 w.heap.size _ from HW.out.at 0 rfl).1
  have g1 : ∀ X : Grow w1, X.val.cell? ⟨w.heap.size, 1, none⟩ = some (.bool up) := fun X => X.cell (HW.out.bx 0 rfl 1 _ rfl).1 lw
  have g2 : ∀ X : Grow w1, X.val.cell? ⟨w.heap.size, 2, none⟩ = some (.slice a n cap) := fun X => X.cell (HW.out.bx 0 rfl 2 _ rfl).1 lw
  have HGR : Shut (∀ X : Grow w1, SL w X.val [bxS w.heap.size [.int .i64 id, .bool up, .slice a n cap]]) := ⟨fun X => HW.out.below X.bel⟩
  cases hup : up with
  | false =>
    have HE : Shut ((t0, b0) = ((⟨#[]⟩ : ByteArray), false)) := ⟨by rw [HQ.out]; unfold getX; rw [hup]; simp⟩
    rw [hup] at g1 HGR
    refine wp_region_grow (by kernel_rfl) (by kernel_rfl) ?_
    repeat (go_big_quiet_step (fail))
    refine wpQuiet_nil ?_
    rintro _ ⟨X, rfl⟩
    go_wp2_with fail
    go_ret2
    have e1 := HE.out
    simp only [Prod.mk.injEq] at e1
    exact ⟨by rw [e1.1, e1.2]; rfl, (HGR.out X).bel⟩
  | true =>
    rw [hup] at g1 HGR HQ
    by_cases hf : unIdx us g i < us.length
    · obtain ⟨k, hk⟩ : ∃ k, k = unIdx us g i := ⟨_, rfl⟩
      have hki : ki = (k : Int) := by rw [HK.out, idx_lt hf, hk]
      rw [← hk] at hf
      obtain ⟨b, off, u, rfl, hu, lb, hc⟩ := un_at HR.out HW.out.bel hf
      have HE : Shut ((t0, b0) = if unSound u then (u.text, true) else ((⟨#[]⟩ : ByteArray), false)) := ⟨by
        rw [HQ.out]; unfold getX; dsimp only; rw [← hk, getD_un us k hf, ← hu]; simp [hf]⟩
      have HSU := Shut.mk (fun X : Grow w1 => calls_same (w := w1) (fun W' (_ : Below w1.heap.size w1 W') => specSumText u.text W' (by rw [hu]; exact HZ.out _ (List.getElem_mem hf))) X)
      unfold unSound at HE
      generalize sumN u.text = sn at HE HSU
      subst hki
      have k0 : (0 : Int) ≤ (k : Int) := by omega
      have k1 : (k : Int) < (n : Int) := by have := HN.out; omega
      have k2 : decide ((k : Int) < 0) = false := by simp
      have p2 : ∀ X : Grow w1, X.val.cell? ⟨b, off + k * 4 + 2, none⟩ = some (.string u.text) := fun X => (hc X.val X.bel).2.2.1
      have p3 : ∀ X : Grow w1, X.val.cell? ⟨b, off + k * 4 + 3, none⟩ = some (.int .i64 u.sum) := fun X => (hc X.val X.bel).2.2.2
      have HC := Shut.mk hc
      clear hc hk hu hf
      cases hs : u.sum == sn with
      | false =>
        have hs' : (u.sum != sn) = true := by rw [bne, hs]; rfl
        rw [hs] at HE
        refine wp_region_grow (by kernel_rfl) (by kernel_rfl) ?_
        repeat (go_big_quiet_step (first | (go_at_call 38; with_reducible exact HSU.out _)))
        refine wpQuiet_nil ?_
        rintro _ ⟨X, rfl⟩
        go_wp2_with fail
        go_ret2
        have e1 := HE.out
        simp only [Bool.false_eq_true, if_false, Prod.mk.injEq] at e1
        exact ⟨by rw [e1.1, e1.2]; rfl, (HGR.out X).bel⟩
      | true =>
        have hs' : (u.sum != sn) = false := by rw [bne, hs]; rfl
        rw [hs] at HE
        refine wp_region_grow (by kernel_rfl) (by kernel_rfl) ?_
        repeat (go_big_quiet_step (first | (go_at_call 38; with_reducible exact HSU.out _)))
        refine wpQuiet_nil ?_
        rintro _ ⟨X, rfl⟩
        have y2 := g2 X
        have y3 := p2 X
        clear g1 g2 p2 p3
        go_wp2_with fail
        go_ret2
        have e1 := HE.out
        simp only [if_true, Prod.mk.injEq] at e1
        exact ⟨by rw [e1.1, e1.2]; rfl, (HGR.out X).bel⟩
    · have hki : ki = -1 := by rw [HK.out, idx_no hf]
      have HE : Shut ((t0, b0) = ((⟨#[]⟩ : ByteArray), false)) := ⟨by rw [HQ.out]; unfold getX; simp [hf]⟩
      subst hki
      clear hf
      refine wp_region_grow (by kernel_rfl) (by kernel_rfl) ?_
      repeat (go_big_quiet_step (fail))
      refine wpQuiet_nil ?_
      rintro _ ⟨X, rfl⟩
      go_wp2_with fail
      go_ret2
      have e1 := HE.out
      simp only [Prod.mk.injEq] at e1
      exact ⟨by rw [e1.1, e1.2]; rfl, (HGR.out X).bel⟩
end Go.Proofs.YtoaifodmjkhiiaaDoor
