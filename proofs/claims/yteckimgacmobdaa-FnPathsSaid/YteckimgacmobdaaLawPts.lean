/- The walk of the law over paths, over what is told of the program's own functions. -/
import Derived.Test.YteckimgacmobdaaLawPth
import Derived.Test.YteckimgacmobdaaDrPth
import Derived.Test.YteckimgacmobdaaFrT
import Derived.Test.YteckimgacmobdaaOpenC
import Derived.Test.YteckimgacmobdaaGuardA
namespace Go.Proofs.Yteckimgacmobdaa
open Go.RowKit
attribute [local go_sem ↓] Go.wp_at_zero Go.wp_at_succ

structure PathsAll : Prop where
  name : ∀ (t : ByteArray) (w : World), t.size ≤ 1048576 → Calls Try.prog 15 #[.string t] w fun e w' => e = .returned (.bool (nameB t)) ∧ Below w.heap.size w w'
  split : ∀ (t : ByteArray) (w : World), t.size ≤ 1048576 → Calls Try.prog 10 #[.string t] w fun e w' => QPost (splitB t) w e w'
  join : ∀ (w : World) (u : Value) (L : List ByteArray) (lo hi : Nat), CSee w u L lo hi → TFit L → Calls Try.prog 14 #[u] w fun e w' => e = .returned (.string (joinB L)) ∧ Below w.heap.size w w'
  parent : ∀ (t : ByteArray) (w : World), t.size ≤ 1048576 → Calls Try.prog 13 #[.string t] w fun e w' => ParPost t w e w'
set_option maxHeartbeats 400000 in
theorem sameTx9 {w : World} {v u : Value} {L : List ByteArray} {lo hi lo' hi' : Nat} (h : SSee w v L lo hi) (k : SSee w u L lo' hi') (hn : L.length ≤ 100000000) : Calls Try.prog 12 #[v, u] w fun e w' => e = .returned (.bool true) ∧ Below w.heap.size w w' := by
  obtain ⟨a, ca, rfl, ha⟩ := h
  obtain ⟨b, cb, rfl, hb⟩ := k
  have HA := Shut.mk (fun hp => units_at ha hp)
  have HB := Shut.mk (fun hp => units_at hb hp)
  obtain ⟨n, hnx⟩ : ∃ n, n = L.length := ⟨_, rfl⟩
  rw [← hnx] at HA HB hn ⊢
  clear ha hb hnx
  have hd : (((n : Int) != (n : Int))) = false := by simp
  go_enter Try.func12, Try.ntmps12
  go_wp2_with fail
  go_loopw [5] (fun i wr => ∃ (k q : Nat), i = .int .i64 k ∧ k ≤ n ∧ wr = w.drewN q) (fun i _ => n - (intOf i).toNat)
  case atStart => exact ⟨0, 0, rfl, Nat.zero_le _, rfl⟩
  case round =>
    obtain ⟨k, q, rfl, hk, rfl⟩ := hrel
    by_cases hlt : k < n
    · obtain ⟨g, o1, rfl, _, hc⟩ := HA.out (by omega)
      obtain ⟨g', o2, rfl, _, hc'⟩ := HB.out (by omega)
      have c1 := hc k hlt
      have c2 := hc' k hlt
      have k0 : (0 : Int) ≤ (k : Int) := by omega
      have k1 : (k : Int) < (n : Int) := by omega
      generalize L.getD k ⟨#[]⟩ = x at c1 c2
      have hxx := same_beq x
      clear hc hc' HA HB
      go_wp2_with fail
      go_quiet (fail)
      go_wp2_with fail
      go_roundw
      case rel => exact ⟨k + 1, q + nq, by go_num, by omega, rfl⟩
      case measure => simp [intOf]; omega
    · go_wp2_with fail
      go_ret
      exact ⟨rfl, ⟨rfl, rfl, rfl, Nat.le_refl _, fun _ _ => rfl⟩⟩
theorem eq_toList (x : ByteArray) : (x.toList == x.toList) = true := by simp
theorem slash_toList : ((⟨#[47]⟩ : ByteArray).toList == [47]) = true := by rw [Go.ByteArray.toList_eq]; rfl
theorem none_toList : ((⟨#[]⟩ : ByteArray).toList == []) = true := by rw [Go.ByteArray.toList_eq]; rfl
theorem join_size {I : List ByteArray} (h : TFit I) : (joinB I).size ≤ 1048576 := by
  by_cases e : I = []
  · subst e; decide
  · rw [joinB_ne e, joinA_size]; exact h
set_option maxRecDepth 1000000 in
set_option maxHeartbeats 4000000 in
theorem paths_walk (h : PathsAll) (a : Option Addr) (len cap : Nat) (w : World) (hcode : CodeAt w w.heap.size a len) :
    Calls Try.prog 3 #[.slice a len cap] w fun e w' => e = .returned (.bool true) ∧ Below w.heap.size w w' := by
  have hbig : decide ((1048576 : Int) < (len : Int)) = false := by have := hcode.1; simp; omega
  have HC : Hid (CodeAt w w.heap.size a len) := hcode
  have HH := Shut.mk h
  clear hcode h
  go_enter Try.func3, Try.ntmps3
  go_wp2_with fail
  refine (big_any a len cap _).mono ?_
  rintro e w1 ⟨rfl, hw1⟩
  obtain rfl : w = w1 := hw1.symm
  clear hw1
  rw [hbig]
  go_wp2_with fail
  refine (drawSplitPath_any _ a len cap HC.out).mono ?_
  rintro e w1 ⟨p, rfl, hp, hb1⟩
  have HB := Shut.mk hb1
  have hp2 : p.size ≤ 1048576 := by omega
  have HSI := Shut.mk (fun W => (HH.out.split p W hp2).mono (fun _ _ q => QPost.tp q))
  have HSS := Shut.mk (fun W => (specSplitPath p W hp2).mono (fun _ _ q => OPost.tp q))
  have HPI := Shut.mk (fun W => HH.out.parent p W hp2)
  have hnm := splitB_names p
  have hjs := joinB_split (p := p)
  unfold ParPost at HPI
  obtain ⟨L, ok, hre⟩ : ∃ L ok, splitB p = (L, ok) := ⟨_, _, rfl⟩
  rw [hre] at HSI HSS hnm hjs
  have HN := Shut.mk (show (∀ s ∈ L, nameB s = true) ∧ L.length ≤ 4 from hnm)
  have HJS := Shut.mk (show ok = true → joinB L = p from hjs)
  have HFL := Shut.mk (names_fit HN.out.1 HN.out.2)
  have hL4 := HN.out.2
  clear hnm hjs hb1 HC
  unfold TPost9 at HSI HSS
  have hoo : (ok != ok) = false := by cases ok <;> rfl
  go_wp2_with fail
  refine (HSI.out _).mono ?_
  rintro e w2 ⟨v1, rfl, ha, hb⟩
  have F1 := Shut.mk (show OAns w2 v1 L _ _ from ha)
  replace HB := Shut.mk (HB.out.trans (hb.mono HB.out.size))
  clear ha hb
  go_wp2_with fail
  refine (HSS.out _).mono ?_
  rintro e w3 ⟨v2, rfl, ha, hb⟩
  have F2 := Shut.mk (show OAns w3 v2 L _ _ from ha)
  have z23 := hb.size
  replace F1 := Shut.mk (F1.out.below hb)
  replace HB := Shut.mk (HB.out.trans (hb.mono HB.out.size))
  clear ha hb
  go_wp2_with fail
  refine (sameTx9 F1.out.see F2.out.see (by omega)).mono ?_
  rintro e w4 ⟨rfl, hb⟩
  have z34 := hb.size
  replace F1 := Shut.mk (F1.out.below hb)
  replace HB := Shut.mk (HB.out.trans (hb.mono HB.out.size))
  clear hb F2 HSS
  cases ok with
  | false =>
    rw [parent_no hre (.inl rfl)] at HPI
    have hn0 := none_toList
    clear hre
    go_wp2_with fail
    refine (HPI.out _).mono ?_
    rintro e w5 ⟨rfl, hb⟩
    replace HB := Shut.mk (HB.out.trans (hb.mono HB.out.size))
    clear hb
    obtain ⟨a1, c1, rfl⟩ := F1.out.form
    go_wp2_with fail
    go_ret
    exact ⟨rfl, HB.out⟩
  | true =>
    have hjp := HJS.out rfl
    rcases List.eq_nil_or_concat L with rfl | ⟨I, x, rfl⟩
    · rw [parent_no hre (.inr rfl)] at HPI
      have hn0 := none_toList
      have hpp := eq_toList p
      clear hre
      go_wp2_with fail
      refine (HPI.out _).mono ?_
      rintro e w5 ⟨rfl, hb⟩
      replace F1 := Shut.mk (F1.out.below hb)
      replace HB := Shut.mk (HB.out.trans (hb.mono HB.out.size))
      have HJ := Shut.mk (HH.out.join _ _ _ _ _ F1.out.csee HFL.out)
      rw [hjp] at HJ
      clear hb hjp
      obtain ⟨a1, c1, rfl⟩ := F1.out.form
      go_wp2_with fail
      refine HJ.out.mono ?_
      rintro e w6 ⟨rfl, hb⟩
      replace HB := Shut.mk (HB.out.trans (hb.mono HB.out.size))
      clear hb
      go_wp2_with fail
      go_ret
      exact ⟨rfl, HB.out⟩
    · rw [List.concat_eq_append] at *
      rw [parent_yes hre] at HPI
      have hl : (I ++ [x]).length = I.length + 1 := by simp
      have HFI : Shut (TFit I) := ⟨names_fit (fun s h => HN.out.1 s (List.mem_append.2 (.inl h))) (by omega)⟩
      have hup := splitB_join (L := I) (fun s h => HN.out.1 s (List.mem_append.2 (.inl h))) (by omega)
      have hjz := join_size HFI.out
      have HSU := Shut.mk (fun W => HH.out.split (joinB I) W hjz)
      have hxs : x.size ≤ 8 := ((nameB_iff x).1 (HN.out.1 x (by simp))).2.2
      have HNX := Shut.mk (fun W => HH.out.name x W (by omega))
      rw [HN.out.1 x (by simp)] at HNX
      rw [hup] at HSU
      unfold QPost at HSU
      have hpp := eq_toList p
      have h47 := slash_toList
      obtain ⟨n, hn⟩ : ∃ n, n = I.length + 1 := ⟨_, rfl⟩
      have HLN : Shut ((I ++ [x]).length = n) := ⟨by rw [hl, hn]⟩
      have hn4 : n ≤ 4 := by omega
      have hn1 : (0 : Int) < (n : Int) := by omega
      have hn1n : 0 < n := by omega
      have hI3 : I.length ≤ 3 := by omega
      have HE47 : Shut (joinB [] = ⟨#[47]⟩) := ⟨rfl⟩
      generalize joinB I = up at *
      obtain ⟨i0, hi, hz0, hz1, hz2⟩ := info_parts infoTextG
      clear hre hup hjz hn hl
      go_wp2_with fail
      refine (HPI.out _).mono ?_
      rintro e w5 ⟨rfl, hb⟩
      have z45 := hb.size
      replace F1 := Shut.mk (F1.out.below hb)
      replace HB := Shut.mk (HB.out.trans (hb.mono HB.out.size))
      have z05 := HB.out.size
      clear hb HPI
      obtain ⟨a1, c1, ev⟩ := F1.out.form
      rw [HLN.out] at ev
      subst ev
      go_wp2_with fail
      refine (HSU.out _).mono ?_
      rintro e w6 ⟨v3, rfl, ho3, hb⟩
      replace F1 := Shut.mk (F1.out.below hb)
      have HB6 := Shut.mk (HB.out.trans (hb.mono HB.out.size))
      have z56 := hb.size
      have HO3 := Shut.mk (show OwnAt w6 w5.heap.size v3 I.length I from ho3)
      have HJ := Shut.mk (HH.out.join _ _ _ _ _ F1.out.csee HFL.out)
      rw [hjp] at HJ
      clear hb ho3 HSU hjp HB
      go_wp2_with fail
      refine HJ.out.mono ?_
      rintro e w7 ⟨rfl, hb⟩
      replace F1 := Shut.mk (F1.out.below hb)
      have HB7 := Shut.mk (HB6.out.trans (hb.mono HB6.out.size))
      have z67 := hb.size
      have HO7 := Shut.mk (HO3.out.below hb)
      clear hb HO3 HJ HB6
      go_wp2_with fail
      refine (HNX.out _).mono ?_
      rintro e w8 ⟨rfl, hb⟩
      replace F1 := Shut.mk (F1.out.below hb)
      have HB8 := Shut.mk (HB7.out.trans (hb.mono HB7.out.size))
      have z78 := hb.size
      have ho8 := HO7.out.below hb
      clear hb HO7 HB7 HNX
      go_wp2_with (at_builtin; refine wpList_append_off (by kernel_rfl) _ _ rfl w5.heap.size i0 hi hz0 hz1 hz2 _ _ _ rfl (ho8.alloc _) ⟨w8.heap.size, 0, none⟩ 1 x rfl (cell_one_new _ _ _ 0 _ rfl) ?c4 ?c5 ?_)
      case c4 => omega
      case c5 => first | omega | (simp; omega)
      intro v9 w9 ho9 hgrow
      have hal : Below w8.heap.size w8 (w8.alloc (.cells #[.string x] 9)) := (Below.refl _ _).alloc (Nat.le_refl _) _
      have F9 : Shut (OAns w9 v9 (I ++ [x]) w5.heap.size w9.heap.size) := ⟨ho9.oans⟩
      have hb59 : Below w5.heap.size (w8.alloc (.cells #[.string x] 9)) w9 := (Below.refl _ _).grown hgrow (by simp; omega) (fun j hj => (ho8.lt j hj).1)
      have t9 : Turned (w8.alloc (.cells #[.string x] 9)) w9 w5.heap.size w9.heap.size := ⟨hb59.mono (Nat.zero_le _), fun k hk hq => hgrow.block k hk (fun e => by
        have := ho8.lt k e.symm
        have := hgrow.size
        omega)⟩
      have F1b := Shut.mk ((F1.out.below hal).turned t9 (.inl (by omega)))
      have HB9 := Shut.mk ((HB8.out.trans (hal.mono HB8.out.size)).trans (hb59.mono z05))
      clear hgrow ho9 ho8 hal hb59 t9
      go_wp2_with fail
      refine (sameTx9 F9.out.see F1b.out.see (by simp; omega)).mono ?_
      rintro e w10 ⟨rfl, hb⟩
      have HB10 := Shut.mk (HB9.out.trans (hb.mono HB9.out.size))
      clear hb
      have HJ0 := Shut.mk (fun W (v : Value) (q : CSee W v [] 0 0) => HH.out.join W v [] 0 0 q (by unfold TFit; decide))
      rw [HE47.out] at HJ0
      go_wp2_with fail
      refine (HJ0.out _ _ ⟨_, _, rfl, Nat.le_refl _, fun h => by simp [tv] at h⟩).mono ?_
      rintro e w11 ⟨rfl, hb⟩
      have HB11 := Shut.mk ((HB10.out.alloc HB10.out.size _).trans (hb.mono (by simp; exact Nat.le_succ_of_le HB10.out.size)))
      clear hb
      go_wp2_with fail
      go_ret
      exact ⟨rfl, HB11.out⟩
end Go.Proofs.Yteckimgacmobdaa
