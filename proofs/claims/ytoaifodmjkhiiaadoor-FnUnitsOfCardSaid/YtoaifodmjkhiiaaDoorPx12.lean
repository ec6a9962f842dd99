/- Texts of ours, laid one behind the other: HpF, UoP, HeL, FrT, LawUn, OpenC. -/
import Derived.Test.YtoaifodmjkhiiaaDoorPx11
import Derived.OpenShut
/- HpF: The program's own GetUnit and Spoil (written by gen/mkhpf.py). -/
namespace Go.Proofs.YtoaifodmjkhiiaaDoor
set_option maxRecDepth 100000
open Go.RowKit BigFrame
attribute [local go_sem ↓] Go.wp_at_zero Go.wp_at_succ

set_option maxRecDepth 100000 in
set_option maxHeartbeats 2000000 in
theorem implGetUnit (H : HM) (a : Option Addr) (cap : Nat) (g i : Int) (w : World) (htab : SumTab w) (hr : UnRow w a H.us) (hl : H.us.length ≤ 1048576) (hz : unSum H.us ≤ 1048576) :
    Calls Tryd.prog 42 #[hov H a cap, .int .i64 g, .int .i64 i] w fun e w' => e = .returned (.tuple #[.string (getX H g i).1, .bool (getX H g i).2]) ∧ Below w.heap.size w w' := by
  have HS0 := Shut.mk ((SL.start w).new #[.int .i64 H.id, .bool H.up, .slice a H.us.length cap] 46)
  have HR := Shut.mk hr
  have HA := Shut.mk (fun (W : World) (hb : Below w.heap.size w W) => implAt H a cap g i W (hr.stays hb) (by omega))
  have HSD : Shut (∀ (W : World) (u : UnM), u ∈ H.us → Below w.heap.size w W → Calls Tryd.prog 55 #[unv u] W fun e w' => e = .returned (.bool (unSound u)) ∧ Below W.heap.size W w') := ⟨fun W u hu hb => implSound u W (htab.stays hb) (by have := unSum_mem hu; omega)⟩
  have HZ : Shut (∀ u ∈ H.us, u.text.size ≤ 1048576) := ⟨fun u hu => by have := unSum_mem hu; omega⟩
  clear hr hz htab
  obtain ⟨id, up, us⟩ := H
  obtain ⟨R, hR⟩ : ∃ R, R = getX ⟨id, up, us⟩ g i := ⟨_, rfl⟩
  rw [← hR]
  obtain ⟨t0, b0⟩ := R
  have HQ := Shut.mk hR
  clear hR
  show Calls Tryd.prog 42 #[.agg #[.int .i64 id, .bool up, .slice a us.length cap], .int .i64 g, .int .i64 i] w fun e w' => e = .returned (.tuple #[.string t0, .bool b0]) ∧ Below w.heap.size w w'
  dsimp only [hov] at *
  obtain ⟨n, hn⟩ : ∃ n, n = us.length := ⟨_, rfl⟩
  have HN := Shut.mk hn
  rw [← hn] at HS0 HA hl ⊢
  clear hn
  obtain ⟨ki, hki⟩ : ∃ q, q = atN us g i := ⟨_, rfl⟩
  rw [← hki] at HA
  have HK := Shut.mk hki
  clear hki
  go_enter Tryd.func42, Tryd.ntmps42
  go_upto_region 1 with fail
  refine wp_shade (fun W => SL w W [bxS w.heap.size [.int .i64 id, .bool up, .slice a n cap]]) HS0.out ?_
  intro W0 hW
  have HW := Shut.mk hW
  clear HS0 hW
  have x0 := (HW.out.bx 0 rfl 0 _ rfl).1
  have x1 := (HW.out.bx 0 rfl 1 _ rfl).1
  have x2 := (HW.out.bx 0 rfl 2 _ rfl).1
  go_upto_region 2 with (go_at_call 54; refine (HA.out _ HW.out.bel).mono ?_; rintro e w1 ⟨rfl, hb⟩; replace HW := Shut.mk (HW.out.below hb); clear hb x0 x1 x2)
  have x1 := (HW.out.bx 0 rfl 1 _ rfl).1
  have x2 := (HW.out.bx 0 rfl 2 _ rfl).1
  cases hup : up with
  | false =>
    have HE : Shut ((t0, b0) = ((⟨#[]⟩ : ByteArray), false)) := ⟨by rw [HQ.out]; unfold getX; rw [hup]; simp⟩
    rw [hup] at x1
    go_wp2_with fail
    go_ret2
    have e1 := HE.out
    simp only [Prod.mk.injEq] at e1
    exact ⟨by rw [e1.1, e1.2]; rfl, HW.out.bel⟩
  | true =>
    rw [hup] at x1 HQ
    by_cases hf : unIdx us g i < us.length
    case neg =>
      have hki : ki = -1 := by rw [HK.out, idx_no hf]
      have HE : Shut ((t0, b0) = ((⟨#[]⟩ : ByteArray), false)) := ⟨by rw [HQ.out]; unfold getX; simp [hf]⟩
      subst hki
      clear hf
      go_wp2_with fail
      go_ret2
      have e1 := HE.out
      simp only [Prod.mk.injEq] at e1
      exact ⟨by rw [e1.1, e1.2]; rfl, HW.out.bel⟩
    obtain ⟨k, hk⟩ : ∃ k, k = unIdx us g i := ⟨_, rfl⟩
    have hki : ki = (k : Int) := by rw [HK.out, idx_lt hf, hk]
    rw [← hk] at hf
    obtain ⟨b, off, u, rfl, hu, lb, hc⟩ := un_at HR.out HW.out.bel hf
    have HE : Shut ((t0, b0) = if unSound u then (u.text, true) else ((⟨#[]⟩ : ByteArray), false)) := ⟨by
      rw [HQ.out]; unfold getX; dsimp only; rw [← hk, getD_un us k hf, ← hu]; simp [hf]⟩
    have HSU := Shut.mk (fun (W : World) (hb : Below w.heap.size w W) => HSD.out W u (by rw [hu]; exact List.getElem_mem hf) hb)
    have HCL : Shut (∀ W, Calls Tryd.prog 56 #[.string u.text] W fun e w' => e = .returned (.string u.text) ∧ Below W.heap.size W w') := ⟨fun W => implClone u.text W (by have := HZ.out u (by rw [hu]; exact List.getElem_mem hf); omega)⟩
    generalize unSound u = snd at HE HSU
    subst hki
    have k0 : (0 : Int) ≤ (k : Int) := by omega
    have k1 : (k : Int) < (n : Int) := by have := HN.out; omega
    have k2 : decide ((k : Int) < 0) = false := by simp
    have k3 : ¬ ((k : Int) < 0) := by omega
    obtain ⟨p0, p1, p2, p3⟩ := hc w1 (Below.refl _ _)
    have HC := Shut.mk hc
    clear hc hk hu hf
    cases snd with
    | false =>
      go_wp2_with (go_at_call 55; refine (HSU.out _ HW.out.bel).mono ?_; rintro e w2 ⟨rfl, hb⟩; replace HW := Shut.mk (HW.out.below hb); clear hb)
      go_ret2
      have e1 := HE.out
      simp only [Bool.false_eq_true, if_false, Prod.mk.injEq] at e1
      exact ⟨by rw [e1.1, e1.2]; rfl, HW.out.bel⟩
    | true =>
      go_upto_region 4 with (go_at_call 55; refine (HSU.out _ HW.out.bel).mono ?_; rintro e w2 ⟨rfl, hb⟩; replace HW := Shut.mk (HW.out.below hb); have HC2 := Shut.mk (HC.out w2 hb); clear hb p0 p1 p2 p3 x1 x2)
      have x2 := (HW.out.bx 0 rfl 2 _ rfl).1
      obtain ⟨p0, p1, p2, p3⟩ := HC2.out
      go_wp2_with (go_at_call 56; refine (HCL.out _).mono ?_; rintro e w3 ⟨rfl, hb⟩; replace HW := Shut.mk (HW.out.below hb); clear hb)
      go_ret2
      have e1 := HE.out
      simp only [if_true, Prod.mk.injEq] at e1
      exact ⟨by rw [e1.1, e1.2]; rfl, HW.out.bel⟩
theorem turned_unC (w : World) (g o lo hi : Nat) (v0 v1 v2 v3 : Value) (h1 : lo ≤ g) (h2 : g < hi) : Turned w ((((w.setCell ⟨g, o, none⟩ v0).setCell ⟨g, o + 1, none⟩ v1).setCell ⟨g, o + 2, none⟩ v2).setCell ⟨g, o + 3, none⟩ v3) lo hi :=
  turned_setW w g o [v0, v1, v2, v3] h1 h2
end Go.Proofs.YtoaifodmjkhiiaaDoor
/- UoP: The program's own UnitsOf and LeftOf. -/
namespace Go.Proofs.YtoaifodmjkhiiaaDoor
set_option maxRecDepth 100000
open Go.RowKit BigFrame
attribute [local go_sem ↓] Go.wp_at_zero Go.wp_at_succ

theorem implSchU (s : Int) (w : World) : Calls Tryd.prog 30 #[.int .i64 s] w fun e w' => SchB s w e w' := by
  cases h : schOk s with
  | true =>
    obtain rfl | rfl | rfl := sch_cases h
    all_goals
      clear h
      go_enter Tryd.func30, Tryd.ntmps30
      go_wp2_with fail
      go_ret3
      exact ⟨rfl, Below.refl _ _⟩
  | false =>
    obtain ⟨h1, h2, h3⟩ := sch_no h
    obtain ⟨e1, e2⟩ := sch_zero h
    unfold SchB
    rw [e1, e2, h]
    clear h e1 e2
    go_enter Tryd.func30, Tryd.ntmps30
    go_wp2_with fail
    go_ret3
    exact ⟨rfl, Below.refl _ _⟩
set_option maxRecDepth 100000 in
set_option maxHeartbeats 2000000 in
theorem implFirst (a : Option Addr) (rs : List HoR) (cap : Nat) (g i : Int) (w : World) (htab : SumTab w) (hr : HsRow w a rs) (hl : rs.length ≤ 1048576) (hz : hsSum (hms rs) ≤ 1048576) :
    Calls Tryd.prog 31 #[.slice a rs.length cap, .int .i64 g, .int .i64 i] w fun e w' => e = .returned (.tuple #[.string (firstU (hms rs) g i).1, .bool (firstU (hms rs) g i).2]) ∧ Below w.heap.size w w' := by
  obtain ⟨n, hn⟩ : ∃ n, n = rs.length := ⟨_, rfl⟩
  have HN := Shut.mk hn
  have HR := Shut.mk (And.intro hr (And.intro hz htab))
  obtain ⟨F, hF⟩ : ∃ q, q = firstU (hms rs) g i := ⟨_, rfl⟩
  have HF := Shut.mk hF
  rw [← hn, ← hF]
  rw [← hn] at hl
  clear hr hz htab hn hF
  go_enter Tryd.func31, Tryd.ntmps31
  go_wp2_with fail
  go_loopw [14] (fun j9 wr => ∃ (j : Nat), j9 = .int .i64 (j : Nat) ∧ j ≤ n ∧ Shut ((firstU ((hms rs).take j) g i).2 = false ∧ Below w.heap.size w wr)) (fun j9 _ => n - (intOf j9).toNat)
  case atStart => exact ⟨0, rfl, Nat.zero_le _, ⟨by simp [firstU], Below.refl _ _⟩⟩
  case round =>
    obtain ⟨j, rfl, hj, HW⟩ := hrel
    by_cases hlt : j < n
    case neg =>
      obtain rfl : n = j := by omega
      have HE : Shut (F = (⟨#[]⟩, false)) := ⟨by
        have q := firstU_none HW.out.1
        rw [List.take_of_length_le (by rw [hms_len, HN.out]; exact Nat.le_refl _)] at q
        rw [HF.out, q]⟩
      go_wp2_with fail
      go_ret2
      exact ⟨by rw [HE.out]; rfl, HW.out.2⟩
    have hjr : j < rs.length := by rw [← HN.out]; exact hlt
    have j0 : (0 : Int) ≤ (j : Int) := by omega
    have j1 : (j : Int) < (n : Int) := by omega
    have HNX := Shut.mk (firstU_take (hs := hms rs) (k := j) (by rw [hms_len]; exact hjr) g i HW.out.1)
    obtain ⟨b, off, r, rfl, hre, lb, hc⟩ := hs_at HR.out.1 HW.out.2 hjr
    obtain ⟨d0, d1, d2, d3⟩ := hc wr (Below.refl _ _)
    have hme : (hms rs)[j]'(by rw [hms_len]; exact hjr) = r.h := by rw [hre]; simp [hms]
    rw [hme] at HNX
    have hsm := hsSum_mem (hs := hms rs) (h := r.h) (by rw [← hme]; exact List.getElem_mem _)
    have hsz := HR.out.2.1
    have HGU := Shut.mk (fun W (hW : Below wr.heap.size wr W) => implGetUnit r.h r.loc r.cap g i W (HR.out.2.2.stays (HW.out.2.trans (hW.mono HW.out.2.size))) (d3.stays hW) (by omega) (by omega))
    obtain ⟨⟨rid, rup, rus⟩, rl, rc⟩ := r
    dsimp only [hov] at *
    obtain ⟨q, hq⟩ : ∃ q, q = rus.length := ⟨_, rfl⟩
    rw [← hq] at d2 HGU
    cases hgb : (getX ⟨rid, rup, rus⟩ g i).2 with
    | false =>
      rw [hgb] at HGU
      rw [← HNX.out] at hgb
      have HX := Shut.mk hgb
      generalize (getX ⟨rid, rup, rus⟩ g i).1 = gt at HGU
      clear hc hre hme hq hsm hsz d3 HNX hgb
      go_wp2_with (go_at_call 42; refine (HGU.out _ ((Below.refl _ _).alloc (Nat.le_refl _) _)).mono ?_; rintro e w2 ⟨rfl, hb2⟩; have HB2 := Shut.mk (HW.out.2.trans ((((Below.refl wr.heap.size wr).alloc (Nat.le_refl _) _).trans (hb2.mono (by simp))).mono HW.out.2.size)); clear hb2)
      go_roundw
      case rel => exact ⟨j + 1, by go_num, by omega, ⟨HX.out, HB2.out⟩⟩
      case measure => simp [intOf]; omega
    | true =>
      rw [hgb] at HGU
      have HX : Shut (F = getX ⟨rid, rup, rus⟩ g i) := ⟨by rw [HF.out, ← HNX.out]; exact firstU_stop g i (by rw [HNX.out]; exact hgb)⟩
      have HX2 : Shut (F.2 = true) := ⟨by rw [HX.out]; exact hgb⟩
      rw [← HX.out] at HGU
      obtain ⟨gt, hgt⟩ : ∃ q, q = F.1 := ⟨_, rfl⟩
      rw [← hgt] at HGU
      have HGT := Shut.mk hgt
      clear hc hre hme hq hsm hsz d3 HNX hgb hgt
      go_wp2_with (go_at_call 42; refine (HGU.out _ ((Below.refl _ _).alloc (Nat.le_refl _) _)).mono ?_; rintro e w2 ⟨rfl, hb2⟩; have HB2 := Shut.mk (HW.out.2.trans ((((Below.refl wr.heap.size wr).alloc (Nat.le_refl _) _).trans (hb2.mono (by simp))).mono HW.out.2.size)); clear hb2)
      go_ret2
      exact ⟨by rw [HX2.out, ← HGT.out]; rfl, HB2.out⟩
theorem own_any9 {W : World} {B ty sz n : Nat} {v : Value} {L : List Value} (h : W.ownsRow B ty sz v n L) : ∃ a c, v = .slice a n c := by
  rcases h.2 with ⟨rfl, h0⟩ | ⟨g, cap, cur, e, _⟩
  · exact ⟨none, 0, by rw [h0]⟩
  · exact ⟨_, _, e⟩
/-- Two rows of one's own that are made longer in turn. -/
structure TwoR (w W : World) (v u : Value) (kt kb : Nat) (T : List ByteArray) (Bs : List Bool) : Prop where
  bel : Below w.heap.size w W
  t : W.ownsRow w.heap.size 9 1 v kt (tv T)
  b : W.ownsRow w.heap.size 4 1 u kb (bcs Bs)
  ne : ∀ q, v.ownBlock = some q → u.ownBlock ≠ some q
theorem TwoR.below {w W W' : World} {v u : Value} {kt kb : Nat} {T : List ByteArray} {Bs : List Bool} (h : TwoR w W v u kt kb T Bs) (hb : Below W.heap.size W W') : TwoR w W' v u kt kb T Bs :=
  ⟨h.bel.trans (hb.mono h.bel.size), h.t.kept (row := none) ⟨hb.os, hb.tape, hb.output, hb.size, fun k hk _ => hb.block k hk⟩ (Classical.em _), h.b.kept (row := none) ⟨hb.os, hb.tape, hb.output, hb.size, fun k hk _ => hb.block k hk⟩ (Classical.em _), h.ne⟩
theorem own_ne {W : World} {B ty sz n : Nat} {v : Value} {L : List Value} (_ : W.ownsRow B ty sz v n L) {row : Option Nat} (hr : ∀ q, v.ownBlock = some q → row ≠ some q) : v.ownBlock = none ∨ v.ownBlock ≠ row := by
  cases e : v.ownBlock with
  | none => exact .inl rfl
  | some q => exact .inr fun e2 => hr q e e2.symm
theorem TwoR.moreT {w W Wa W' : World} {v u v' : Value} {kt kb k' : Nat} {T T' : List ByteArray} {Bs : List Bool} (h : TwoR w W v u kt kb T Bs) (hb : Below W.heap.size W Wa) (ho : W'.ownsRow w.heap.size 9 1 v' k' (tv T')) (hg : Wa.grownBy W' v.ownBlock) (hat : v'.ownBlock = v.ownBlock ∨ v'.ownBlock = some Wa.heap.size) : TwoR w W' v' u k' kb T' Bs := by
  have k := h.below hb
  refine ⟨k.bel.grown hg k.bel.size (fun q e => (k.t.lt q e).1), ho, k.b.kept hg (own_ne k.b fun q e e2 => h.ne q e2 e), fun q e e2 => ?_⟩
  rcases hat with q1 | q1
  · rw [q1] at e; exact h.ne q e e2
  · rw [q1] at e
    have := (k.b.lt q e2).2
    have : Wa.heap.size = q := by simpa using e
    omega
theorem TwoR.moreB {w W Wa W' : World} {v u u' : Value} {kt kb k' : Nat} {T : List ByteArray} {Bs B' : List Bool} (h : TwoR w W v u kt kb T Bs) (hb : Below W.heap.size W Wa) (ho : W'.ownsRow w.heap.size 4 1 u' k' (bcs B')) (hg : Wa.grownBy W' u.ownBlock) (hat : u'.ownBlock = u.ownBlock ∨ u'.ownBlock = some Wa.heap.size) : TwoR w W' v u' kt k' T B' := by
  have k := h.below hb
  refine ⟨k.bel.grown hg k.bel.size (fun q e => (k.b.lt q e).1), k.t.kept hg (own_ne k.t fun q e e2 => h.ne q e e2), ho, fun q e e2 => ?_⟩
  rcases hat with q1 | q1
  · rw [q1] at e2; exact h.ne q e e2
  · rw [q1] at e2
    have := (k.t.lt q e).2
    have : Wa.heap.size = q := by simpa using e2
    omega
theorem TwoR.post {w W : World} {a b : Option Addr} {n c d : Nat} {T : List ByteArray} {Bs : List Bool} (h : TwoR w W (.slice a n c) (.slice b n d) n n T Bs) (hT : T.length = n) (hB : Bs.length = n) : UPost T Bs w (.returned (.tuple #[.slice a n c, .slice b n d])) W := by
  obtain ⟨f1, c1⟩ := FRw.of_own h.t
  obtain ⟨f2, _⟩ := FRw.of_own h.b
  refine upost_mk hT hB c1 h.bel ?_
  rcases f1 with ⟨_, e⟩ | ⟨g, e, q1, q2, q3⟩
  · left
    have := congrArg List.length e
    rw [tv_len, hT] at this
    exact this
  · rcases f2 with ⟨_, e'⟩ | ⟨g', e', q1', q2', q3'⟩
    · left
      have := congrArg List.length e'
      rw [bcs_len, hB] at this
      exact this
    · exact .inr ⟨g, g', e, e', fun q => h.ne g (by rw [e]; rfl) (by rw [e', q]; rfl), q1, q1', q3, q3'⟩
theorem infoStrP : (Tryd.prog.info? 9).map (fun i => (i.zero, i.size, i.bytes)) = some (some (.string ⟨#[]⟩), 1, 16) := by kernel_rfl
set_option maxRecDepth 100000 in
set_option maxHeartbeats 4000000 in
theorem implUnitsOf (a : Option Addr) (rs : List HoR) (cap : Nat) (s g : Int) (w : World) (htab : SumTab w) (hr : HsRow w a rs) (hl : rs.length ≤ 1048576) (hz : hsSum (hms rs) ≤ 1048576) :
    Calls Tryd.prog 9 #[.slice a rs.length cap, .int .i64 s, .int .i64 g] w fun e w' => UPost (unitsT (hms rs) s g) (unitsB (hms rs) s g) w e w' := by
  obtain ⟨i0, hi, hz0, hz1, hz2⟩ := info_parts infoStrP
  obtain ⟨i1, hi', hy0, hy1, hy2⟩ := info_parts infoBoolG
  have HSC := Shut.mk (fun W => implSchU s W)
  have HFI : Shut (∀ (k : Nat) W, Below w.heap.size w W → Calls Tryd.prog 31 #[.slice a rs.length cap, .int .i64 g, .int .i64 (k : Nat)] W fun e w' => e = .returned (.tuple #[.string (firstU (hms rs) g (k : Nat)).1, .bool (firstU (hms rs) g (k : Nat)).2]) ∧ Below W.heap.size W w') := ⟨fun k W hW => implFirst a rs cap g (k : Nat) W (htab.stays hW) (hr.stays hW) hl hz⟩
  obtain ⟨T, hT⟩ : ∃ q, q = unitsT (hms rs) s g := ⟨_, rfl⟩
  obtain ⟨Bs, hBs⟩ : ∃ q, q = unitsB (hms rs) s g := ⟨_, rfl⟩
  obtain ⟨m, hm⟩ : ∃ q, q = schN s := ⟨_, rfl⟩
  have hm6 : m ≤ 6 := by rw [hm]; exact schN_le s
  have HTL : Shut (T.length = m ∧ Bs.length = m) := ⟨by rw [hT, hBs, hm]; exact ⟨unitsT_len _ _ _, unitsB_len _ _ _⟩⟩
  have HTA : Shut (∀ k, k < m → tv (T.take (k + 1)) = tv (T.take k) ++ [.string (firstU (hms rs) g (k : Nat)).1] ∧ bcs (Bs.take (k + 1)) = bcs (Bs.take k) ++ [.bool (firstU (hms rs) g (k : Nat)).2]) := ⟨fun k hk => by
    have e1 : T[k]? = some (firstU (hms rs) g (k : Nat)).1 := by rw [hT]; unfold unitsT unitsL; simp [← hm, hk]
    have e2 : Bs[k]? = some (firstU (hms rs) g (k : Nat)).2 := by rw [hBs]; unfold unitsB unitsL; simp [← hm, hk]
    obtain ⟨l1, e1⟩ := List.getElem?_eq_some_iff.1 e1
    obtain ⟨l2, e2⟩ := List.getElem?_eq_some_iff.1 e2
    rw [List.take_succ_eq_append_getElem l1, List.take_succ_eq_append_getElem l2, e1, e2]
    exact ⟨by simp [tv], by simp [bcs]⟩⟩
  rw [← hT, ← hBs]
  have HM : Shut (m = schK s + schM s) := ⟨by rw [hm]; rfl⟩
  unfold SchB at HSC
  generalize rs.length = n at *
  generalize schK s = ka at *
  generalize schM s = kb at *
  generalize schOk s = kc at *
  have hkm : (ka : Int) + (kb : Int) = (m : Int) := by have := HM.out; omega
  clear hr hz hT hBs hm htab
  go_enter Tryd.func9, Tryd.ntmps9
  go_wp2_with (go_at_call 30; refine (HSC.out _).mono ?_; rintro e w1 ⟨rfl, hb1⟩; have HB1 := Shut.mk hb1; clear hb1)
  go_loopw [11, 12, 25] (fun v u i9 wr => ∃ (k : Nat), i9 = .int .i64 (k : Nat) ∧ k ≤ m ∧ Shut (TwoR w wr v u k k (T.take k) (Bs.take k))) (fun _ _ i9 _ => m - (intOf i9).toNat)
  case atStart => exact ⟨0, rfl, Nat.zero_le _, ⟨⟨HB1.out, by simp [tv]; exact World.ownsRow_nil _ _ _ _, by simp [bcs]; exact World.ownsRow_nil _ _ _ _, fun q e => by cases e⟩⟩⟩
  case round =>
    clear HB1
    obtain ⟨k, rfl, hk, HW⟩ := hrel
    obtain ⟨av, cv, rfl⟩ := own_any9 HW.out.t
    obtain ⟨bv, dv, rfl⟩ := own_any9 HW.out.b
    by_cases hlt : k < m
    case neg =>
      obtain rfl : m = k := by omega
      have HE := HW.out
      rw [List.take_of_length_le (Nat.le_of_eq HTL.out.1), List.take_of_length_le (Nat.le_of_eq HTL.out.2)] at HE
      replace HE := Shut.mk HE
      go_wp2_with fail
      go_ret2
      exact HE.out.post HTL.out.1 HTL.out.2
    have k1 : (k : Int) < (m : Int) := by omega
    have HCA := Shut.mk (HFI.out k wr HW.out.bel)
    have HNX := Shut.mk (HTA.out k hlt)
    generalize firstU (hms rs) g (k : Nat) = F at *
    obtain ⟨ft, fb⟩ := F
    dsimp only at HCA HNX
    go_wp2_with (first
      | (go_at_call 31; refine HCA.out.mono ?_; rintro e w2 ⟨rfl, hb2⟩; have HW2 := Shut.mk (HW.out.below hb2); clear hb2; have hown := HW2.out.t; have hsz := HW2.out.bel.size)
      | (at_builtin; refine wpList_append_own_at _ rfl _ _ 24 rfl w.heap.size 9 i0 (.string ⟨#[]⟩) 1 16 Tryd.underlying24 hi hz0 hz1 hz2 rfl (by decide) _ _ _ rfl (hown.alloc _) ⟨w2.heap.size, 0, none⟩ 1 1 [.string ft] rfl rfl (cell_one_new _ _ _) ?c2 ?c3 ?c4 ?c5 ?_))
    case c2 => simp [Value.oneCell']
    case c3 => unfold maxLen; omega
    case c4 => omega
    case c5 => first | omega | (simp; omega)
    intro v9 w9 ho hg _ hat
    rw [← HNX.out.1] at ho
    have HT9 := Shut.mk (HW2.out.moreT ((Below.refl _ _).alloc (Nat.le_refl _) _) ho hg (by simpa using hat))
    clear ho hg hat hown hsz
    have hown := HT9.out.b
    have hsz := HT9.out.bel.size
    go_wp2_with (at_builtin; refine wpList_append_own_at _ rfl _ _ 25 rfl w.heap.size 4 i1 (.bool false) 1 1 Tryd.underlying25 hi' hy0 hy1 hy2 rfl (by decide) _ _ _ rfl (hown.alloc _) ⟨w9.heap.size, 0, none⟩ 1 1 [.bool fb] rfl rfl (cell_one_new _ _ _) ?c2 ?c3 ?c4 ?c5 ?_)
    case c2 => simp [Value.oneCell']
    case c3 => unfold maxLen; omega
    case c4 => omega
    case c5 => first | omega | (simp; omega)
    intro u9 w10 ho hg _ hat
    rw [← HNX.out.2] at ho
    have HB9 := Shut.mk (HT9.out.moreB ((Below.refl _ _).alloc (Nat.le_refl _) _) ho hg (by simpa using hat))
    clear ho hg hat hown hsz
    go_wp2_with fail
    go_roundw
    case rel => exact ⟨k + 1, by go_num, by omega, HB9⟩
    case measure => simp [intOf]; omega
set_option maxRecDepth 100000 in
set_option maxHeartbeats 2000000 in
theorem implLeftOf (a : Option Addr) (rs : List HoR) (cap : Nat) (s g : Int) (w : World) (htab : SumTab w) (hr : HsRow w a rs) (hl : rs.length ≤ 1048576) (hz : hsSum (hms rs) ≤ 1048576) :
    Calls Tryd.prog 19 #[.slice a rs.length cap, .int .i64 s, .int .i64 g] w fun e w' => e = .returned (.int .i64 (leftX (hms rs) s g : Nat)) ∧ Below w.heap.size w w' := by
  have HU := Shut.mk (implUnitsOf a rs cap s g w htab hr hl hz)
  have HBL := Shut.mk (unitsB_len (hms rs) s g)
  have hm6 := schN_le s
  unfold leftX
  generalize unitsB (hms rs) s g = Bs at *
  generalize unitsT (hms rs) s g = T at *
  generalize schN s = m at *
  generalize rs.length = n at *
  unfold UPost at HU
  clear hr hl hz htab
  go_enter Tryd.func19, Tryd.ntmps19
  go_wp2_with (go_at_call 9; refine HU.out.mono ?_; rintro e w1 ⟨v, u, l1, h1, l2, h2, rfl, _, hB, _, _, _, _, _, hb⟩; obtain ⟨bv, dv, rfl, hrow⟩ := hB.see; have HB := Shut.mk (And.intro hrow.crow hb); clear hB hrow hb; rw [HBL.out])
  go_loopw [9, 21] (fun c9 i9 wr => ∃ (k z : Nat), i9 = .int .i64 (k : Nat) ∧ c9 = .int .i64 (z : Nat) ∧ k ≤ m ∧ z ≤ k ∧ wr = w1 ∧ Shut (z = (Bs.take k).count true)) (fun _ i9 _ => m - (intOf i9).toNat)
  case atStart => exact ⟨0, 0, rfl, rfl, Nat.zero_le _, Nat.zero_le _, rfl, ⟨by simp⟩⟩
  case round =>
    obtain ⟨k, z, rfl, rfl, hk, hzk, rfl, HZ⟩ := hrel
    by_cases hlt : k < m
    case neg =>
      obtain rfl : m = k := by omega
      have HE : Shut (z = Bs.count true) := ⟨by rw [HZ.out, List.take_of_length_le (Nat.le_of_eq HBL.out)]⟩
      go_wp2_with fail
      go_ret
      exact ⟨by rw [← HE.out]; rfl, HB.out.2⟩
    have k0 : (0 : Int) ≤ (k : Int) := by omega
    have k1 : (k : Int) < (m : Int) := by omega
    have hkb : k < Bs.length := by rw [HBL.out]; exact hlt
    obtain ⟨b, off, rfl, lb, hc⟩ := crow_bool HB.out.1 (by omega)
    have d0 := hc k hkb
    have HST := Shut.mk (count_step Bs k hkb)
    cases hq : Bs.getD k false with
    | true =>
      rw [hq] at d0 HST
      have HZ2 : Shut (z + 1 = (Bs.take (k + 1)).count true) := ⟨by rw [HST.out, HZ.out]; simp⟩
      clear hc hq HST
      go_wp2_with fail
      go_roundw
      case rel => exact ⟨k + 1, z + 1, by go_num, by go_num, by omega, by omega, by first | rfl | trivial, HZ2⟩
      case measure => simp [intOf]; omega
    | false =>
      rw [hq] at d0 HST
      have HZ2 : Shut (z = (Bs.take (k + 1)).count true) := ⟨by rw [HST.out, HZ.out]; simp⟩
      clear hc hq HST
      go_wp2_with fail
      go_roundw
      case rel => exact ⟨k + 1, z, by go_num, rfl, by omega, by omega, by first | rfl | trivial, HZ2⟩
      case measure => simp [intOf]; omega
end Go.Proofs.YtoaifodmjkhiiaaDoor
/- HeL: The program's own LoadOf. -/
namespace Go.Proofs.YtoaifodmjkhiiaaDoor
set_option maxRecDepth 100000
open Go.RowKit
attribute [local go_sem ↓] Go.wp_at_zero Go.wp_at_succ

theorem implLoad8 (H : HM) (a : Option Addr) (cap : Nat) (w : World) : Calls Tryd.prog 26 #[hov H a cap] w fun e w' => e = .returned (.int .i64 (H.us.length : Nat)) ∧ Below w.heap.size w w' := by
  obtain ⟨id, up, us⟩ := H
  dsimp only [hov]
  generalize us.length = n
  go_enter Tryd.func26, Tryd.ntmps26
  go_wp2_with fail
  go_ret
  exact ⟨rfl, (Below.refl _ _).alloc (Nat.le_refl _) _⟩
end Go.Proofs.YtoaifodmjkhiiaaDoor
/- FrT: The laws' own comparison of two rows of texts. -/
namespace Go.Proofs.YtoaifodmjkhiiaaDoor
set_option maxRecDepth 100000
open Go.RowKit

set_option maxHeartbeats 400000 in
theorem sameTexts_any (a b : Option Addr) (xs ys : List ByteArray) (ca cb : Nat) (w : World) (ha : SRow w a xs) (hb : SRow w b ys) (hn : xs.length ≤ 100000000) (hm : ys.length ≤ 100000000) :
    Calls Tryd.prog 24 #[.slice a xs.length ca, .slice b ys.length cb] w fun e w' => e = .returned (.bool (eqS xs ys)) ∧ ∃ q, w' = w.drewN q := by
  obtain ⟨n, hnx⟩ : ∃ n, n = xs.length := ⟨_, rfl⟩
  obtain ⟨m, hmy⟩ : ∃ m, m = ys.length := ⟨_, rfl⟩
  have HN : Hid (n = xs.length) := hnx
  have HM : Hid (m = ys.length) := hmy
  rw [← hnx, ← hmy]
  rw [← hnx] at hn
  rw [← hmy] at hm
  clear hnx hmy
  by_cases h : n = m
  · subst h
    have hd : (((n : Int) != (n : Int))) = false := by simp
    go_enter Tryd.func24, Tryd.ntmps24
    go_wp2_with fail
    go_loopw [5] (fun i wr => ∃ (k q : Nat), i = .int .i64 k ∧ k ≤ n ∧ sameTo xs ys k ∧ wr = w.drewN q) (fun i _ => n - (intOf i).toNat)
    case atStart => exact ⟨0, 0, rfl, Nat.zero_le _, fun j hj => by omega, rfl⟩
    case round =>
      obtain ⟨k, q, rfl, hk, hs, rfl⟩ := hrel
      by_cases hlt : k < n
      · obtain ⟨g, rfl, _, hc⟩ := ha (by have := HN.out; omega)
        obtain ⟨g', rfl, _, hc'⟩ := hb (by have := HM.out; omega)
        have c1 := hc k (by have := HN.out; omega)
        have c2 := hc' k (by have := HM.out; omega)
        have k0 : (0 : Int) ≤ (k : Int) := by omega
        have k1 : (k : Int) < (n : Int) := by omega
        obtain ⟨x, hx⟩ : ∃ x, x = xs.getD k ⟨#[]⟩ := ⟨_, rfl⟩
        obtain ⟨y, hy⟩ : ∃ y, y = ys.getD k ⟨#[]⟩ := ⟨_, rfl⟩
        rw [← hx] at c1
        rw [← hy] at c2
        have HX : Hid _ := hx
        have HY : Hid _ := hy
        clear hx hy hc hc'
        by_cases hxy : x = y
        · have hst := sameTo_step xs ys k hs (by rw [← HX.out, ← HY.out]; exact hxy)
          subst hxy
          go_wp2_with fail
          go_quiet (fail)
          go_wp2_with fail
          go_roundw
          case rel => exact ⟨k + 1, q + nq, by go_num, by omega, hst, rfl⟩
          case measure => simp [intOf]; omega
        · have hbn : (x.toList == y.toList) = false := by
            rw [beq_eq_false_iff_ne]; intro e; apply hxy
            rw [Go.ByteArray.toList_eq, Go.ByteArray.toList_eq] at e
            exact Go.WideShapes.bytes_inj e
          have HE : Hid (eqS xs ys = false) := eqS_no xs ys k (by rw [← HX.out, ← HY.out]; exact hxy)
          go_wp2_with fail
          go_quiet (fail)
          go_wp2_with fail
          go_ret
          exact ⟨by rw [HE.out]; rfl, q + nq, drewN_two _ _ _⟩
      · have HE : Hid (eqS xs ys = true) := eqS_yes xs ys (by rw [← HN.out, ← HM.out]) (by rw [show xs.length = k from by have := HN.out; omega]; exact hs)
        go_wp2_with fail
        go_ret
        exact ⟨by rw [HE.out]; rfl, q, rfl⟩
  · have HE : Hid (eqS xs ys = false) := eqS_len xs ys (by rw [← HN.out, ← HM.out]; exact h)
    have hd : (((n : Int) != (m : Int))) = true := by rw [bne_iff_ne]; omega
    go_enter Tryd.func24, Tryd.ntmps24
    go_wp2_with fail
    go_ret
    exact ⟨by rw [HE.out]; rfl, 0, rfl⟩
end Go.Proofs.YtoaifodmjkhiiaaDoor
/- LawUn: The law FnUnitsOf (written by gen/mklawun.py). -/
namespace Go.Proofs.YtoaifodmjkhiiaaDoor
set_option maxRecDepth 100000
open Go.RowKit BigFrame
attribute [local go_sem ↓] Go.wp_at_zero Go.wp_at_succ

theorem sameTx9 {w : World} {v u : Value} {L : List ByteArray} {lo hi lo' hi' : Nat} (h : SAns w v L lo hi) (k : SAns w u L lo' hi') (hf : L.length ≤ 1000000) : Calls Tryd.prog 24 #[v, u] w fun e w' => e = .returned (.bool true) ∧ Below w.heap.size w w' := by
  obtain ⟨a, cap, rfl, h1⟩ := h.srow
  obtain ⟨b, cap', rfl, h2⟩ := k.srow
  refine (sameTexts_any a b L L cap cap' w h1 h2 (by omega) (by omega)).mono ?_
  rintro e w' ⟨rfl, q, rfl⟩
  exact ⟨by unfold eqS; simp, ⟨rfl, rfl, rfl, Nat.le_refl _, fun _ _ => rfl⟩⟩
set_option maxHeartbeats 1000000 in
theorem sameBools_same (a b : Option Addr) (xs : List Bool) (ca cb : Nat) (w : World) (ha : CRow w a (bcs xs)) (hb : CRow w b (bcs xs)) (hl : xs.length ≤ 1048576) :
    Calls Tryd.prog 25 #[.slice a xs.length ca, .slice b xs.length cb] w fun e w' => e = .returned (.bool true) ∧ Below w.heap.size w w' := by
  have HA : Hid (CRow w a (bcs xs)) := ha
  have HB : Hid (CRow w b (bcs xs)) := hb
  clear ha hb
  go_enter Tryd.func25, Tryd.ntmps25
  go_wp2_with fail
  go_loopw [5] (fun i wr => ∃ (k : Nat), i = .int .i64 k ∧ k ≤ xs.length ∧ Below w.heap.size w wr) (fun i _ => xs.length - (intOf i).toNat)
  case atStart => exact ⟨0, rfl, Nat.zero_le _, Below.refl _ _⟩
  case round =>
    obtain ⟨k, rfl, hk, hbl⟩ := hrel
    by_cases hlt : k < xs.length
    · obtain ⟨b1, o1, rfl, l1, hc1⟩ := crow_bool (HA.out.stays hbl) (by omega)
      obtain ⟨b2, o2, rfl, l2, hc2⟩ := crow_bool (HB.out.stays hbl) (by omega)
      have d0 := hc1 k hlt
      have e0 := hc2 k hlt
      have k0 : (0 : Int) ≤ (k : Int) := by omega
      have k1 : (k : Int) < (xs.length : Int) := by omega
      have hbn : ∀ q, Below w.heap.size w (wr.drewN q) := fun q => hbl.trans ⟨rfl, rfl, rfl, Nat.le_refl _, fun _ _ => rfl⟩
      generalize xs.getD k false = x at d0 e0
      clear hc1 hc2 hbl
      go_wp2_with fail
      go_quiet (fail)
      go_wp2_with fail
      go_roundw
      case rel => exact ⟨k + 1, by go_num, by omega, hbn _⟩
      case measure => simp [intOf]; omega
    · have e : k = xs.length := by omega
      subst e
      go_wp2_with fail
      go_ret
      exact ⟨rfl, hbl⟩
/-- Some host has it, as it is told. -/
def anyU (hs : List HM) (g i : Int) (t : ByteArray) : Bool := hs.any fun h => (getX h g i).2 && ((getX h g i).1.toList == t.toList)
theorem anyU_step {hs : List HM} {k : Nat} (hk : k < hs.length) (g i : Int) (t : ByteArray) : anyU (hs.take (k + 1)) g i t = (anyU (hs.take k) g i t || ((getX hs[k] g i).2 && ((getX hs[k] g i).1.toList == t.toList))) := by
  unfold anyU
  rw [List.take_succ_eq_append_getElem hk, List.any_append]
  simp
theorem anyU_yes {hs : List HM} {g i : Int} (h : (firstU hs g i).2 = true) : anyU hs g i (firstU hs g i).1 = true := by
  obtain ⟨x, hx, e1, e2⟩ := firstU_mem h
  unfold anyU
  rw [List.any_eq_true]
  exact ⟨x, hx, by rw [e1, e2]; simp⟩
theorem code_up8 {w : World} {B C len : Nat} {a : Option Addr} (h : CodeAt w B a len) (hC : B ≤ C) : CodeAt w C a len := ⟨h.1, fun hp => by
  obtain ⟨b, off, e, hb, hx⟩ := h.2 hp
  exact ⟨b, off, e, by omega, hx⟩⟩
set_option maxRecDepth 1000000 in
set_option maxHeartbeats 8000000 in
theorem unitsOf_walk (a : Option Addr) (len cap : Nat) (w : World) (htab : SumTab w) (hcode : CodeAt w w.heap.size a len) :
    Calls Tryd.prog 5 #[.slice a len cap] w fun e w' => e = .returned (.bool true) ∧ Below w.heap.size w w' := by
  have hbig : decide ((1048576 : Int) < (len : Int)) = false := by have := hcode.1; simp; omega
  have HC := Shut.mk (And.intro hcode htab)
  clear hcode htab
  go_enter Tryd.func5, Tryd.ntmps5
  go_wp2_with fail
  refine (big_any a len cap _).mono ?_
  rintro e w1 ⟨rfl, hw1⟩
  obtain rfl : w = w1 := hw1.symm
  clear hw1
  rw [hbig]
  go_wp2_with fail
  refine (drawHosts_any w a len cap HC.out.1).mono ?_
  rintro e w1 ⟨gH, cH, gs, s, t, rfl, hs1, hs3, _, hwg⟩
  have HG := Shut.mk hwg
  clear hwg
  have hlen := HG.out.len
  have HSU := Shut.mk (HG.out.good.sum (by omega))
  have HUI : Shut (∀ W, Below w1.heap.size w1 W → Calls Tryd.prog 9 #[.slice (some ⟨gH, 0, none⟩) 7 cH, .int .i64 s, .int .i64 1] W fun e w' => UPost (unitsT (hms gs) s 1) (unitsB (hms gs) s 1) W e w') := ⟨fun W hW => by
    have q := implUnitsOf (some ⟨gH, 0, none⟩) gs cH s 1 W (HC.out.2.stays (HG.out.bel.trans (hW.mono HG.out.bel.size))) (HG.out.row.stays hW) (by omega) HSU.out
    rw [hlen] at q
    exact q⟩
  have HUS : Shut (∀ W, Below w1.heap.size w1 W → Calls Tryd.prog 7 #[.slice (some ⟨gH, 0, none⟩) 7 cH, .int .i64 s, .int .i64 1] W fun e w' => UPost (unitsT (hms gs) s 1) (unitsB (hms gs) s 1) W e w') := ⟨fun W hW => by
    have q := specUnitsOf (some ⟨gH, 0, none⟩) gs cH s 1 W (HG.out.row.stays hW) (by omega) HSU.out
    rw [hlen] at q
    exact q⟩
  have HLF : Shut (∀ W, Below w1.heap.size w1 W → Calls Tryd.prog 19 #[.slice (some ⟨gH, 0, none⟩) 7 cH, .int .i64 s, .int .i64 1] W fun e w' => e = .returned (.int .i64 (leftX (hms gs) s 1 : Nat)) ∧ Below W.heap.size W w') := ⟨fun W hW => by
    have q := implLeftOf (some ⟨gH, 0, none⟩) gs cH s 1 W (HC.out.2.stays (HG.out.bel.trans (hW.mono HG.out.bel.size))) (HG.out.row.stays hW) (by omega) HSU.out
    rw [hlen] at q
    exact q⟩
  have HTA : Shut (∀ k, k < schN s → (unitsT (hms gs) s 1).getD k ⟨#[]⟩ = (firstU (hms gs) 1 (k : Nat)).1 ∧ (unitsB (hms gs) s 1).getD k false = (firstU (hms gs) 1 (k : Nat)).2) := ⟨fun k hk => by unfold unitsT unitsB unitsL; simp [List.getD, hk]⟩
  have HTL := Shut.mk (And.intro (unitsT_len (hms gs) s 1) (unitsB_len (hms gs) s 1))
  have hm6 := schN_le s
  have hm0 : 0 < schN s := by
    obtain rfl | rfl | rfl : s = 1 ∨ s = 2 ∨ s = 3 := by omega
    all_goals decide
  unfold leftX at HLF
  generalize unitsT (hms gs) s 1 = T at *
  generalize unitsB (hms gs) s 1 = Bs at *
  generalize schN s = m at *
  unfold UPost at HUI HUS
  go_wp2_with fail
  refine (HUI.out _ (Below.refl _ _)).mono ?_
  rintro e w2 ⟨v2, u2, l1, h1, l2, h2, rfl, hS2, hB2, _, _, _, _, _, hb2⟩
  obtain ⟨at2, ct2, rfl, hct2, hrt2⟩ := hS2
  obtain ⟨ab2, cb2, rfl, hrb2⟩ := hB2
  have HS2 : Shut (SAns w2 (.slice at2 T.length ct2) T l1 h1) := ⟨⟨at2, ct2, rfl, hct2, hrt2⟩⟩
  have HB2 : Shut (BAns w2 (.slice ab2 Bs.length cb2) Bs l2 h2) := ⟨⟨ab2, cb2, rfl, hrb2⟩⟩
  have HW2 := Shut.mk hb2
  clear hct2 hrt2 hrb2 hb2
  go_wp2_with fail
  refine (HUS.out _ HW2.out).mono ?_
  rintro e w3 ⟨v3, u3, l3, h3, l4, h4, rfl, hS3, hB3, _, _, _, _, _, hb3⟩
  obtain ⟨at3, ct3, rfl, hct3, hrt3⟩ := hS3
  obtain ⟨ab3, cb3, rfl, hrb3⟩ := hB3
  have HS3 : Shut (SAns w3 (.slice at3 T.length ct3) T l3 h3) := ⟨⟨at3, ct3, rfl, hct3, hrt3⟩⟩
  have HB3 : Shut (BAns w3 (.slice ab3 Bs.length cb3) Bs l4 h4) := ⟨⟨ab3, cb3, rfl, hrb3⟩⟩
  have HS4 := Shut.mk (HS2.out.below hb3)
  have HB4 := Shut.mk (HB2.out.below hb3)
  have HW3 := Shut.mk (HW2.out.trans (hb3.mono HW2.out.size))
  clear hct3 hrt3 hrb3 hb3 HS2 HB2 HW2 HUI HUS
  have HET := Shut.mk (fun (x : World) (hx : Below w3.heap.size w3 x) => sameTx9 (HS4.out.below hx) (HS3.out.below hx) (by have := HTL.out.1; omega))
  have HEB : Shut (∀ x, Below w3.heap.size w3 x → Calls Tryd.prog 25 #[.slice ab2 Bs.length cb2, .slice ab3 Bs.length cb3] x fun e w' => e = .returned (.bool true) ∧ Below x.heap.size x w') := ⟨fun x hx => by
    obtain ⟨_, _, e1, r1⟩ := (HB4.out.below hx).see
    obtain ⟨_, _, e2, r2⟩ := (HB3.out.below hx).see
    cases e1
    cases e2
    exact sameBools_same _ _ Bs _ _ x r1.crow r2.crow (by have := HTL.out.2; omega)⟩
  have HRT : Shut (CRow w3 at2 (tv T)) := ⟨by obtain ⟨_, _, e1, r1⟩ := HS4.out.see; cases e1; exact r1.crow⟩
  have HRB : Shut (CRow w3 ab2 (bcs Bs)) := ⟨by obtain ⟨_, _, e1, r1⟩ := HB4.out.see; cases e1; exact r1.crow⟩
  rw [HTL.out.1] at HET ⊢
  rw [HTL.out.2] at HEB ⊢
  clear HS4 HB4 HS3 HB3 hlen
  go_upto_region 8 with fail
  go_loopw [11, 12] (fun z9 i9 wr => ∃ (k z : Nat), i9 = .int .i64 (k : Nat) ∧ z9 = .int .i64 (z : Nat) ∧ k ≤ m ∧ z ≤ k ∧ Shut (z = (Bs.take k).count true) ∧ Shut (Below w3.heap.size w3 wr)) (fun _ i9 _ => m - (intOf i9).toNat)
  case atStart => exact ⟨0, 0, rfl, rfl, by omega, by omega, ⟨by simp⟩, ⟨Below.refl _ _⟩⟩
  case round =>
    obtain ⟨k, z, rfl, rfl, hk, hzk, HZ, HB⟩ := hrel
    by_cases hlt : k < m
    case pos =>
      have hkb : k < Bs.length := by rw [HTL.out.2]; exact hlt
      have hkt : k < T.length := by rw [HTL.out.1]; exact hlt
      obtain ⟨bt, ot, eat, lbt, hct⟩ := HRT.out (by rw [tv_len]; omega)
      obtain ⟨bb, ob, eab, lbb, hcb⟩ := crow_bool HRB.out (by omega)
      subst eat
      subst eab
      have ct := hct k _ (tv_get T k hkt)
      have cb := hcb k hkb
      obtain ⟨ta, tb9⟩ := HTA.out k hlt
      rw [ta] at ct
      rw [tb9] at cb
      have HCT : Shut (∀ x, Below w3.heap.size w3 x → x.cell? ⟨bt, ot + k, none⟩ = some (.string (firstU (hms gs) 1 (k : Nat)).1) ∧ x.cell? ⟨bb, ob + k, none⟩ = some (.bool (firstU (hms gs) 1 (k : Nat)).2)) := ⟨fun x hx => ⟨(hx.cell (p := ⟨bt, ot + k, none⟩) lbt).trans ct, (hx.cell (p := ⟨bb, ob + k, none⟩) lbb).trans cb⟩⟩
      have hcs := count_step Bs k hkb
      rw [tb9] at hcs
      have HCS := Shut.mk hcs
      have HYE := Shut.mk (anyU_yes (hs := hms gs) (g := 1) (i := (k : Nat)))
      generalize firstU (hms gs) 1 (k : Nat) = FF at *
      obtain ⟨tx, hv⟩ := FF
      dsimp only at HCT HCS HYE
      have k0 : (0 : Int) ≤ (k : Int) := by omega
      have k1 : (k : Int) < (m : Int) := by omega
      clear hct hcb ct cb ta tb9 hcs
      go_upto_region 12 with fail
      go_loopw [13, 14] (fun b9 j9 wr => ∃ (j : Nat) (b : Bool), j9 = .int .i64 (j : Nat) ∧ b9 = .bool b ∧ j ≤ 7 ∧ Shut (b = anyU ((hms gs).take j) 1 (k : Nat) tx) ∧ Shut (Below w3.heap.size w3 wr)) (fun _ j9 _ => 7 - (intOf j9).toNat)
      case atStart => exact ⟨0, false, rfl, rfl, by omega, ⟨by simp [anyU]⟩, HB⟩
      case round =>
        clear HB
        obtain ⟨j, b, rfl, rfl, hj, HA, HB⟩ := hrel
        by_cases hj7 : j < 7
        case pos =>
          have hjg : j < gs.length := by rw [HG.out.len]; exact hj7
          have HBW := Shut.mk (HW3.out.trans (HB.out.mono HW3.out.size))
          obtain ⟨b1, o1, r, e1, hre, lb1, hc1⟩ := hs_at HG.out.row HBW.out hjg
          simp only [Option.some.injEq, Addr.mk.injEq, and_true] at e1
          obtain ⟨rfl, rfl⟩ := e1
          obtain ⟨p0, p1, p2, p3⟩ := hc1 wr (Below.refl _ _)
          rw [Nat.zero_add] at p0 p1 p2
          have hrm : r.h ∈ hms gs := by rw [hre]; exact List.mem_map_of_mem (List.getElem_mem hjg)
          have hfit := HG.out.good.fit (by omega) hrm
          have hst := anyU_step (hs := hms gs) (k := j) (by rw [hms_len]; exact hjg) 1 (k : Nat) tx
          have hme : (hms gs)[j]'(by rw [hms_len]; exact hjg) = r.h := by rw [hre]; simp [hms]
          rw [hme, ← HA.out] at hst
          have HST := Shut.mk hst
          have HGU := Shut.mk (specGetUnit r.h r.loc r.cap 1 (k : Nat) wr p3 (by omega) (by omega))
          generalize getX r.h 1 (k : Nat) = GX at *
          obtain ⟨gt, gb⟩ := GX
          dsimp only at HGU HST
          obtain ⟨⟨rid, rup, rus⟩, rl, rc⟩ := r
          dsimp only [hov] at *
          obtain ⟨rn, hrn⟩ : ∃ q, q = rus.length := ⟨_, rfl⟩
          rw [← hrn] at HGU p2
          obtain ⟨eb, heb⟩ : ∃ q, q = (gt.toList == tx.toList) := ⟨_, rfl⟩
          have heb2 : (gt.toList == tx.toList) = eb := heb.symm
          rw [heb2] at HST
          have j0 : (0 : Int) ≤ (j : Int) := by omega
          have j1 : (j : Int) < 7 := by omega
          clear hc1 hre hrm hfit hst hme p3 hrn heb
          cases b with
          | true =>
            go_wp2_with (go_at_call 22; refine HGU.out.mono ?_; rintro e w4 ⟨rfl, hb4⟩; have HB4 := Shut.mk (HB.out.trans (hb4.mono HB.out.size)); clear hb4)
            go_roundw
            case rel => exact ⟨j + 1, true, by go_num, rfl, by omega, ⟨by rw [HST.out]; rfl⟩, HB4⟩
            case measure => simp [intOf]; omega
          | false =>
          cases gb with
          | false =>
            go_wp2_with (go_at_call 22; refine HGU.out.mono ?_; rintro e w4 ⟨rfl, hb4⟩; have HB4 := Shut.mk (HB.out.trans (hb4.mono HB.out.size)); clear hb4)
            go_roundw
            case rel => exact ⟨j + 1, false, by go_num, rfl, by omega, ⟨by rw [HST.out]; rfl⟩, HB4⟩
            case measure => simp [intOf]; omega
          | true =>
            go_wp2_with (go_at_call 22; refine HGU.out.mono ?_; rintro e w4 ⟨rfl, hb4⟩; have HB4 := Shut.mk (HB.out.trans (hb4.mono HB.out.size)); have cT := (HCT.out w4 HB4.out).1; clear hb4)
            go_roundw
            case rel => exact ⟨j + 1, eb, by go_num, rfl, by omega, ⟨by rw [HST.out]; simp⟩, HB4⟩
            case measure => simp [intOf]; omega
        have hj9 : ¬ (j : Int) < 7 := by omega
        have hall : b = anyU (hms gs) 1 (k : Nat) tx := by rw [HA.out, List.take_of_length_le (by rw [hms_len, HG.out.len]; omega)]
        obtain ⟨_, cB⟩ := HCT.out wr HB.out
        cases hv with
        | false =>
          have HZ2 : Shut (z = (Bs.take (k + 1)).count true) := ⟨by rw [HCS.out, HZ.out]; simp⟩
          clear hall
          go_wp2_with fail
          go_roundw
          case rel => exact ⟨k + 1, z, by go_num, rfl, by omega, by omega, HZ2, HB⟩
          case measure => simp [intOf]; omega
        | true =>
          have hbt : b = true := by rw [hall]; exact HYE.out rfl
          subst hbt
          have HZ2 : Shut (z + 1 = (Bs.take (k + 1)).count true) := ⟨by rw [HCS.out, HZ.out]; simp⟩
          clear hall
          go_wp2_with fail
          go_roundw
          case rel => exact ⟨k + 1, z + 1, by go_num, by go_num, by omega, by omega, HZ2, HB⟩
          case measure => simp [intOf]; omega
    have hk9 : ¬ (k : Int) < (m : Int) := by omega
    have HZE : Shut (z = Bs.count true) := ⟨by rw [HZ.out, List.take_of_length_le (by rw [HTL.out.2]; omega)]⟩
    rw [← HZE.out] at HLF
    have HBW := Shut.mk (HW3.out.trans (HB.out.mono HW3.out.size))
    have HBT := Shut.mk (HG.out.bel.trans (HBW.out.mono HG.out.bel.size))
    go_upto_region 21 with (go_at_call 23; refine (drawHost_any wr a len cap (code_up8 (CodeAt.below HC.out.1 HBT.out (Nat.le_refl _)) HBT.out.size)).mono ?_; rintro e w4 ⟨id, us, bh, ch, rfl, _, _, _, hb4⟩; have HB4 := Shut.mk hb4; clear hb4)
    obtain ⟨un, hun⟩ : ∃ q, q = us.length := ⟨_, rfl⟩
    have HLX := Shut.mk (fun x => implLoad8 ⟨id, true, us⟩ bh ch x)
    dsimp only [hov] at HLX
    rw [← hun] at HLX ⊢
    clear hun
    obtain ⟨ub, hub⟩ : ∃ q, q = w4.heap.size := ⟨_, rfl⟩
    refine wp_shade (fun V => Below w4.heap.size w4 V ∧ WCells V ub [.int .i64 id, .bool true, .slice bh un ch]) ⟨(Below.refl _ _).alloc (Nat.le_refl _) _, by rw [hub]; exact wcells_new w4 #[.int .i64 id, .bool true, .slice bh un ch] 46⟩ ?_
    rintro V ⟨hV, hVb⟩
    rw [← hub]
    have HBX : Shut (∀ x, Later V.drew x → Below w3.heap.size w3 x) := ⟨fun x hx => HB.out.trans ((HB4.out.trans ((hV.trans (((Below.drew (Below.refl V.heap.size V)).trans hx).mono hV.size)).mono HB4.out.size)).mono HB.out.size)⟩
    have HLE : Shut (∀ x, Later V.drew x → x.cell? ⟨ub, 0, none⟩ = some (.int .i64 id) ∧ x.cell? ⟨ub, 1, none⟩ = some (.bool true) ∧ x.cell? ⟨ub, 2, none⟩ = some (.slice bh un ch)) := ⟨fun x hx => by
      have hw := hVb.grow ((Below.drew (Below.refl _ _)).trans hx)
      exact ⟨(hw.2 0 _ rfl).1, (hw.2 1 _ rfl).1, (hw.2 2 _ rfl).1⟩⟩
    have HFIN : Shut (∀ x, Later V.drew x → Below w.heap.size w x) := ⟨fun x hx => HG.out.bel.trans ((HW3.out.trans ((HBX.out x hx).mono HW3.out.size)).mono HG.out.bel.size)⟩
    have hm9 : (0 : Int) < (m : Int) := by omega
    have hm8 : decide (0 < m) = true := by simpa using hm0
    clear hV hVb hub
    refine wp_region_later (by kernel_rfl) ?_
    refine wpL_val (i := 0) (v := ?vr0) rfl (by kernel_rfl) (by kernel_rfl) (by kernel_rfl) (fun _ _ _ h => h) (by rfl) ?hyr0 ?restr0
    case hyr0 => (intro x hx; obtain ⟨d0, d1, d2⟩ := HLE.out x hx; go_simp; try with_reducible rfl)
    try simp only [Act.put, List.setIfInBounds_toArray, List.set_cons_zero, List.set_cons_succ]
    refine wpL_val (i := 1) (v := ?vr1) rfl (by kernel_rfl) (by kernel_rfl) (by kernel_rfl) (fun _ _ _ h => h) (by rfl) ?hyr1 ?restr1
    case hyr1 => (intro x hx; obtain ⟨d0, d1, d2⟩ := HLE.out x hx; go_simp; try with_reducible rfl)
    try simp only [Act.put, List.setIfInBounds_toArray, List.set_cons_zero, List.set_cons_succ]
    refine wpL_call (i := 2) (v := .bool true) (f := 24) (args := #[.slice at2 m ct2, .slice at3 m ct3]) rfl (by kernel_rfl) (by kernel_rfl) (by kernel_rfl) (fun _ _ _ h => h) (by rfl) ?hyr2 (fun x hx => HET.out x (HBX.out x hx)) ?restr2
    case hyr2 => (intro x hx; obtain ⟨d0, d1, d2⟩ := HLE.out x hx; go_simp; try with_reducible rfl)
    try simp only [Act.put, List.setIfInBounds_toArray, List.set_cons_zero, List.set_cons_succ]
    refine wpL_val (i := 3) (v := ?vr3) rfl (by kernel_rfl) (by kernel_rfl) (by kernel_rfl) (fun _ _ _ h => h) (by rfl) ?hyr3 ?restr3
    case hyr3 => (intro x hx; obtain ⟨d0, d1, d2⟩ := HLE.out x hx; go_simp; try with_reducible rfl)
    try simp only [Act.put, List.setIfInBounds_toArray, List.set_cons_zero, List.set_cons_succ]
    refine wpL_val (i := 4) (v := ?vr4) rfl (by kernel_rfl) (by kernel_rfl) (by kernel_rfl) (fun _ _ _ h => h) (by rfl) ?hyr4 ?restr4
    case hyr4 => (intro x hx; obtain ⟨d0, d1, d2⟩ := HLE.out x hx; go_simp; try with_reducible rfl)
    try simp only [Act.put, List.setIfInBounds_toArray, List.set_cons_zero, List.set_cons_succ]
    refine wpL_val (i := 5) (v := ?vr5) rfl (by kernel_rfl) (by kernel_rfl) (by kernel_rfl) (fun _ _ _ h => h) (by rfl) ?hyr5 ?restr5
    case hyr5 => (intro x hx; obtain ⟨d0, d1, d2⟩ := HLE.out x hx; go_simp; try with_reducible rfl)
    try simp only [Act.put, List.setIfInBounds_toArray, List.set_cons_zero, List.set_cons_succ]
    refine wpL_call (i := 6) (v := .bool true) (f := 25) (args := #[.slice ab2 m cb2, .slice ab3 m cb3]) rfl (by kernel_rfl) (by kernel_rfl) (by kernel_rfl) (fun _ _ _ h => h) (by rfl) ?hyr6 (fun x hx => HEB.out x (HBX.out x hx)) ?restr6
    case hyr6 => (intro x hx; obtain ⟨d0, d1, d2⟩ := HLE.out x hx; go_simp; try with_reducible rfl)
    try simp only [Act.put, List.setIfInBounds_toArray, List.set_cons_zero, List.set_cons_succ]
    refine wpL_val (i := 7) (v := ?vr7) rfl (by kernel_rfl) (by kernel_rfl) (by kernel_rfl) (fun _ _ _ h => h) (by rfl) ?hyr7 ?restr7
    case hyr7 => (intro x hx; obtain ⟨d0, d1, d2⟩ := HLE.out x hx; go_simp; try with_reducible rfl)
    try simp only [Act.put, List.setIfInBounds_toArray, List.set_cons_zero, List.set_cons_succ]
    refine wpL_val (i := 8) (v := ?vr8) rfl (by kernel_rfl) (by kernel_rfl) (by kernel_rfl) (fun _ _ _ h => h) (by rfl) ?hyr8 ?restr8
    case hyr8 => (intro x hx; obtain ⟨d0, d1, d2⟩ := HLE.out x hx; go_simp; try with_reducible rfl)
    try simp only [Act.put, List.setIfInBounds_toArray, List.set_cons_zero, List.set_cons_succ]
    refine wpL_val (i := 9) (v := ?vr9) rfl (by kernel_rfl) (by kernel_rfl) (by kernel_rfl) (fun _ _ _ h => h) (by rfl) ?hyr9 ?restr9
    case hyr9 => (intro x hx; obtain ⟨d0, d1, d2⟩ := HLE.out x hx; go_simp; try with_reducible rfl)
    try simp only [Act.put, List.setIfInBounds_toArray, List.set_cons_zero, List.set_cons_succ]
    refine wpL_val (i := 10) (v := ?vr10) rfl (by kernel_rfl) (by kernel_rfl) (by kernel_rfl) (fun _ _ _ h => h) (by rfl) ?hyr10 ?restr10
    case hyr10 => (intro x hx; obtain ⟨d0, d1, d2⟩ := HLE.out x hx; go_simp; try with_reducible rfl)
    try simp only [Act.put, List.setIfInBounds_toArray, List.set_cons_zero, List.set_cons_succ]
    refine wpL_val (i := 11) (v := ?vr11) rfl (by kernel_rfl) (by kernel_rfl) (by kernel_rfl) (fun _ _ _ h => h) (by rfl) ?hyr11 ?restr11
    case hyr11 => (intro x hx; obtain ⟨d0, d1, d2⟩ := HLE.out x hx; go_simp; try with_reducible rfl)
    try simp only [Act.put, List.setIfInBounds_toArray, List.set_cons_zero, List.set_cons_succ]
    refine wpL_val (i := 12) (v := ?vr12) rfl (by kernel_rfl) (by kernel_rfl) (by kernel_rfl) (fun _ _ _ h => h) (by rfl) ?hyr12 ?restr12
    case hyr12 => (intro x hx; obtain ⟨d0, d1, d2⟩ := HLE.out x hx; go_simp; try with_reducible rfl)
    try simp only [Act.put, List.setIfInBounds_toArray, List.set_cons_zero, List.set_cons_succ]
    refine wpL_call (i := 13) (v := .int .i64 (z : Nat)) (f := 19) (args := #[.slice (some ⟨gH, 0, none⟩) 7 cH, .int .i64 s, .int .i64 1]) rfl (by kernel_rfl) (by kernel_rfl) (by kernel_rfl) (fun _ _ _ h => h) (by rfl) ?hyr13 (fun x hx => HLF.out x (HW3.out.trans ((HBX.out x hx).mono HW3.out.size))) ?restr13
    case hyr13 => (intro x hx; obtain ⟨d0, d1, d2⟩ := HLE.out x hx; go_simp; try with_reducible rfl)
    try simp only [Act.put, List.setIfInBounds_toArray, List.set_cons_zero, List.set_cons_succ]
    refine wpL_val (i := 14) (v := ?vr14) rfl (by kernel_rfl) (by kernel_rfl) (by kernel_rfl) (fun _ _ _ h => h) (by rfl) ?hyr14 ?restr14
    case hyr14 => (intro x hx; obtain ⟨d0, d1, d2⟩ := HLE.out x hx; go_simp; try with_reducible rfl)
    try simp only [Act.put, List.setIfInBounds_toArray, List.set_cons_zero, List.set_cons_succ]
    refine wpL_val (i := 15) (v := ?vr15) rfl (by kernel_rfl) (by kernel_rfl) (by kernel_rfl) (fun _ _ _ h => h) (by rfl) ?hyr15 ?restr15
    case hyr15 => (intro x hx; obtain ⟨d0, d1, d2⟩ := HLE.out x hx; go_simp; try with_reducible rfl)
    try simp only [Act.put, List.setIfInBounds_toArray, List.set_cons_zero, List.set_cons_succ]
    refine wpL_val (i := 16) (v := ?vr16) rfl (by kernel_rfl) (by kernel_rfl) (by kernel_rfl) (fun _ _ _ h => h) (by rfl) ?hyr16 ?restr16
    case hyr16 => (intro x hx; obtain ⟨d0, d1, d2⟩ := HLE.out x hx; go_simp; try with_reducible rfl)
    try simp only [Act.put, List.setIfInBounds_toArray, List.set_cons_zero, List.set_cons_succ]
    refine wpL_val (i := 17) (v := ?vr17) rfl (by kernel_rfl) (by kernel_rfl) (by kernel_rfl) (fun _ _ _ h => h) (by rfl) ?hyr17 ?restr17
    case hyr17 => (intro x hx; obtain ⟨d0, d1, d2⟩ := HLE.out x hx; go_simp; try with_reducible rfl)
    try simp only [Act.put, List.setIfInBounds_toArray, List.set_cons_zero, List.set_cons_succ]
    refine wpL_call (i := 18) (v := .int .i64 (un : Nat)) (f := 26) (args := #[.agg #[.int .i64 id, .bool true, .slice bh un ch]]) rfl (by kernel_rfl) (by kernel_rfl) (by kernel_rfl) (fun _ _ _ h => h) (by rfl) ?hyr18 (fun x _ => HLX.out x) ?restr18
    case hyr18 => (intro x hx; obtain ⟨d0, d1, d2⟩ := HLE.out x hx; go_simp; try with_reducible rfl)
    try simp only [Act.put, List.setIfInBounds_toArray, List.set_cons_zero, List.set_cons_succ]
    refine wpL_val (i := 19) (v := ?vr19) rfl (by kernel_rfl) (by kernel_rfl) (by kernel_rfl) (fun _ _ _ h => h) (by rfl) ?hyr19 ?restr19
    case hyr19 => (intro x hx; obtain ⟨d0, d1, d2⟩ := HLE.out x hx; go_simp; try with_reducible rfl)
    try simp only [Act.put, List.setIfInBounds_toArray, List.set_cons_zero, List.set_cons_succ]
    refine wpL_val (i := 20) (v := ?vr20) rfl (by kernel_rfl) (by kernel_rfl) (by kernel_rfl) (fun _ _ _ h => h) (by rfl) ?hyr20 ?restr20
    case hyr20 => (intro x hx; obtain ⟨d0, d1, d2⟩ := HLE.out x hx; go_simp; try with_reducible rfl)
    try simp only [Act.put, List.setIfInBounds_toArray, List.set_cons_zero, List.set_cons_succ]
    refine wpL_val (i := 21) (v := ?vr21) rfl (by kernel_rfl) (by kernel_rfl) (by kernel_rfl) (fun _ _ _ h => h) (by rfl) ?hyr21 ?restr21
    case hyr21 => (intro x hx; obtain ⟨d0, d1, d2⟩ := HLE.out x hx; go_simp; try with_reducible rfl)
    try simp only [Act.put, List.setIfInBounds_toArray, List.set_cons_zero, List.set_cons_succ]
    refine wpL_val (i := 22) (v := ?vr22) rfl (by kernel_rfl) (by kernel_rfl) (by kernel_rfl) (fun _ _ _ h => h) (by rfl) ?hyr22 ?restr22
    case hyr22 => (intro x hx; obtain ⟨d0, d1, d2⟩ := HLE.out x hx; go_simp; try with_reducible rfl)
    try simp only [Act.put, List.setIfInBounds_toArray, List.set_cons_zero, List.set_cons_succ]
    refine wpL_val (i := 23) (v := ?vr23) rfl (by kernel_rfl) (by kernel_rfl) (by kernel_rfl) (fun _ _ _ h => h) (by rfl) ?hyr23 ?restr23
    case hyr23 => (intro x hx; obtain ⟨d0, d1, d2⟩ := HLE.out x hx; go_simp; try with_reducible rfl)
    try simp only [Act.put, List.setIfInBounds_toArray, List.set_cons_zero, List.set_cons_succ]
    refine wpL_val (i := 24) (v := ?vr24) rfl (by kernel_rfl) (by kernel_rfl) (by kernel_rfl) (fun _ _ _ h => h) (by rfl) ?hyr24 ?restr24
    case hyr24 => (intro x hx; obtain ⟨d0, d1, d2⟩ := HLE.out x hx; go_simp; try with_reducible rfl)
    try simp only [Act.put, List.setIfInBounds_toArray, List.set_cons_zero, List.set_cons_succ]
    refine wpL_val (i := 25) (v := ?vr25) rfl (by kernel_rfl) (by kernel_rfl) (by kernel_rfl) (fun _ _ _ h => h) (by rfl) ?hyr25 ?restr25
    case hyr25 => (intro x hx; obtain ⟨d0, d1, d2⟩ := HLE.out x hx; go_simp; try with_reducible rfl)
    try simp only [Act.put, List.setIfInBounds_toArray, List.set_cons_zero, List.set_cons_succ]
    refine wpL_val (i := 26) (v := ?vr26) rfl (by kernel_rfl) (by kernel_rfl) (by kernel_rfl) (fun _ _ _ h => h) (by rfl) ?hyr26 ?restr26
    case hyr26 => (intro x hx; obtain ⟨d0, d1, d2⟩ := HLE.out x hx; go_simp; try with_reducible rfl)
    try simp only [Act.put, List.setIfInBounds_toArray, List.set_cons_zero, List.set_cons_succ]
    refine wpL_val (i := 27) (v := ?vr27) rfl (by kernel_rfl) (by kernel_rfl) (by kernel_rfl) (fun _ _ _ h => h) (by rfl) ?hyr27 ?restr27
    case hyr27 => (intro x hx; obtain ⟨d0, d1, d2⟩ := HLE.out x hx; go_simp; try with_reducible rfl)
    try simp only [Act.put, List.setIfInBounds_toArray, List.set_cons_zero, List.set_cons_succ]
    refine wpL_val (i := 28) (v := ?vr28) rfl (by kernel_rfl) (by kernel_rfl) (by kernel_rfl) (fun _ _ _ h => h) (by rfl) ?hyr28 ?restr28
    case hyr28 => (intro x hx; obtain ⟨d0, d1, d2⟩ := HLE.out x hx; go_simp; try with_reducible rfl)
    try simp only [Act.put, List.setIfInBounds_toArray, List.set_cons_zero, List.set_cons_succ]
    refine wpL_val (i := 29) (v := ?vr29) rfl (by kernel_rfl) (by kernel_rfl) (by kernel_rfl) (fun _ _ _ h => h) (by rfl) ?hyr29 ?restr29
    case hyr29 => (intro x hx; obtain ⟨d0, d1, d2⟩ := HLE.out x hx; go_simp; try with_reducible rfl)
    try simp only [Act.put, List.setIfInBounds_toArray, List.set_cons_zero, List.set_cons_succ]
    refine wpL_done (by kernel_rfl) ?_ _
    intro y9 hy9
    have HB9 := Shut.mk (HFIN.out y9 hy9)
    go_wp2_with fail
    go_ret
    exact ⟨rfl, HB9.out⟩
end Go.Proofs.YtoaifodmjkhiiaaDoor
/- OpenC: The code that a drawn law is handed: what came in. -/
namespace Go.Proofs.YtoaifodmjkhiiaaDoor
set_option maxRecDepth 100000
open Go.RowKit Go.ChangeShapes Go.WideShapes
set_option maxRecDepth 100000 in
theorem open_code {H : Type} {enc : TypeId × Value → H} {W : World} {r : Reach} {b0 base : Nat} {held : Bool} {v : Value} {d : DataW H} {p : List MemPlace}
    (hv : Value.okWide Tryd.prog W r b0 38 v) (h : DataW.Trod enc Tryd.prog W base (fun _ => true) held 38 v d p) : ∃ a len cap, v = .slice a len cap ∧ (len ≤ 1048576 → CodeAt W W.heap.size a len) := by
  obtain ⟨a0, l0, c0, rfl⟩ := okWide_slice Tryd.underlying38 hv
  refine ⟨a0, l0, c0, rfl, fun hl => ?_⟩
  obtain ⟨fuel, hf⟩ := h
  rcases open_ints Tryd.underlying38 Tryd.underlying5 (by kernel_rfl) hf with ⟨hcs, _⟩ | ⟨x, l, c, zs, hcs, _, hl', hm, hz, _, hcell, hwz⟩
  · simp [Value.cells] at hcs
    obtain ⟨rfl, rfl, rfl⟩ := hcs
    exact code_at (cap := 0) (zs := []) hl (.inl ⟨rfl, rfl⟩)
  · simp [Value.cells] at hcs
    obtain ⟨rfl, rfl, rfl⟩ := hcs
    exact code_at (cap := c0) (zs := zs) hl (.inr ⟨_, rfl, hl', by simpa using hz, hcell, hwz⟩)
end Go.Proofs.YtoaifodmjkhiiaaDoor
