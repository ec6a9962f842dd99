/- Texts of ours, laid one behind the other: ShC, ShD, ShE, StrsA, StrsB, DiskN, DiskP, LawD, ShF, DiskR, ImC. -/
import Derived.Test.YtplcdcfhfaghiaaPa7
import Derived.Deep.QuietTactic
import Derived.BigQuiet
import Derived.Deep.RegionHeld3
import Derived.Deep.DrawnRows
import Derived.Sort.KeysCollected
import Derived.Sort.OwnSorted
import Derived.WalkSpells
import Derived.Deep.CutRange
/- ShC: The shelf's operations: a file is moved; an act; the shelf of a disk. -/
namespace Go.Proofs.Ytplcdcfhfaghiaa
set_option maxRecDepth 100000
open Go.RowKit Go.Maps
attribute [local go_sem ↓] Go.wp_at_zero Go.wp_at_succ

theorem own_below' {w w' : World} {b n : Nat} {D : DataW Unit} (h : w.ownsMap Try.prog 9 ptrElem b n D) (hb : Below w.heap.size w w') : w'.ownsMap Try.prog 9 ptrElem b n D :=
  h.kept (row := none) ⟨hb.os, hb.tape, hb.output, hb.size, fun k hk _ => hb.block k hk⟩ (by simp)
set_option maxHeartbeats 2000000 in
set_option maxRecDepth 100000 in
theorem move_any (b B : Nat) (fs : List FM) (n t : ByteArray) (w : World) (hsh : Shelf w B b fs) (hok : DOk fs) (hn : n.size ≤ 9223372036854775807) (ht : t.size ≤ 9223372036854775807) (hBw : B ≤ w.heap.size) :
    Calls Try.prog 41 #[.map (some b), .string n, .string t] w fun e w' => ShPost (doA fs ⟨3, n, ⟨#[]⟩, t⟩) fs B b w e w' := by
  have hkey := kl_key n hn
  have hkt := kl_key t ht
  have hik := isKey_kl t ht
  have HSH : Hid (Shelf w B b fs) := hsh
  have h30 := hok.1
  rw [doA_move hok]
  obtain ⟨hB, D, G, hown, hsz, hin, hinj, hno⟩ := hsh
  have hbl := hown.lt
  cases hf : fileOf fs n with
  | none =>
    have hab := hno n (fileOf_none hf)
    clear hin hinj hno hok hkt
    go_enter Try.func41, Try.ntmps41
    go_wp2_with (at_lookup; refine wpList_absent _ rfl _ _ 50 rfl 9 72 lawK Try.underlying50 (zeroPtr _) b fs.length D rfl hown _ _ rfl hkey hab ?_)
    go_ret
    exact ⟨rfl, HSH.out, Below.refl _ _⟩
  | some f =>
    obtain ⟨hm, rfl⟩ := fileOf_some hf
    obtain ⟨q1, q2, q3, q4⟩ := hin f hm
    have htidy := hown.tidy lawK
    have hhas := Maps.has_true_of_atKey q1
    have HU : Hid (∀ w1 w2 w3 : World, Below w.heap.size w w1 → w1.mapTurned w2 b → w3.ownsMap Try.prog 9 ptrElem b (fs.length + 1) ((D.del (kl f.name)).put (kl t) (.lit (.int .i64 (G f.name)))) → (w2.setCell ⟨G f.name, 0, none⟩ (.string t)).mapTurned w3 b → ShPost (some (putF ⟨t, f.text, f.kept⟩ (withoutF f.name fs))) fs B b w (.returned (.bool true)) w3) := by
      intro w1 w2 w3 hb1 ht2 ho ht3
      have c2 : ∀ g X, g ≠ b → WCells w g X → WCells w2 g X := fun g X hg hc => wc_grown (hc.grow hb1) ht2.grown (fun e => hg (by simpa using e.symm))
      have c3 : ∀ g X, g ≠ b → WCells (w2.setCell ⟨G f.name, 0, none⟩ (.string t)) g X → WCells w3 g X := fun g X hg hc => wc_grown hc ht3.grown (fun e => hg (by simpa using e.symm))
      have hnew : WCells (w2.setCell ⟨G f.name, 0, none⟩ (.string t)) (G f.name) (fcells ⟨t, f.text, f.kept⟩) := (c2 _ _ q4 q2).set 0 (.string t) (by rw [fcells_len]; decide)
      have hs2 : w.heap.size ≤ w2.heap.size := Nat.le_trans hb1.size ht2.grown.size
      have htd := htidy.del (kl f.name)
      have hsd : Maps.size (D.del (kl f.name)) = (withoutF f.name fs).length := by
        have h1 := Maps.size_del (k := kl f.name) htidy
        rw [hhas] at h1
        have h2 := without_some hok.up hm
        simp at h1
        omega
      refine ⟨rfl, Shelf.put (D := D.del (kl f.name)) (G := G) (g := G f.name) hB ho ?_ (fun f2 h2 => ?_) (fun f1 h1 f2 h2 e => hinj f1 (mem_withoutF.1 h1).1 f2 (mem_withoutF.1 h2).1 e) (fun n hn => ?_) (fun l hl => ⟨fun z => Maps.atKey_put_other hl _ z, Maps.has_put_other hl _⟩) (fun z => Maps.atKey_put_same (hown.isMap.del _) hik _ z) (c3 _ _ q4 hnew) (fun f2 h2 hne => ?_) (fun f2 h2 hne e => (mem_withoutF.1 h2).2 (hinj f2 (mem_withoutF.1 h2).1 f hm e)) q3 q4, below_turned ((below_turned (hb1.mono hBw) ht2 hB (by have := hb1.size; omega)).setCell q3 _) ht3 hB (by simp [World.setCell]; omega)⟩
      · rw [Maps.size_put htd, put_len (hok.up.without _), hsd]
        show _ = (withoutF t (withoutF f.name fs)).length + 1
        cases hq : Maps.has (D.del (kl f.name)) (kl t) with
        | false =>
          have : ∀ f' ∈ withoutF f.name fs, f'.name ≠ t := fun f' hf' e => by
            obtain ⟨m1, m2⟩ := mem_withoutF.1 hf'
            rw [Maps.has_del_other (fun e' => m2 (by rw [e]; exact kl_inj e')), ← e, Maps.has_true_of_atKey (hin f' m1).1] at hq
            cases hq
          rw [without_none this]; rfl
        | true =>
          have hne : t ≠ f.name := fun e => by rw [e, Maps.has_del_same] at hq; cases hq
          have : ∃ f' ∈ withoutF f.name fs, f'.name = t := Classical.byContradiction fun hc => by
            have h1 := hno t fun f' hf' e => hc ⟨f', mem_withoutF.2 ⟨hf', fun e' => hne (e.symm.trans e')⟩, e⟩
            rw [Maps.has_del_other (fun e' => hne (kl_inj e')), h1] at hq
            cases hq
          obtain ⟨f', hf', rfl⟩ := this
          rw [without_some (hok.up.without _) hf']; rfl
      · obtain ⟨m1, m2⟩ := mem_withoutF.1 h2
        exact ⟨fun z => by rw [Maps.atKey_del_other (fun e => m2 (kl_inj e))]; exact (hin f2 m1).1 z, (hin f2 m1).2.2⟩
      · by_cases e : n = f.name
        · subst e; exact Maps.has_del_same
        · rw [Maps.has_del_other (fun e' => e (kl_inj e'))]
          exact hno n fun f' hf' e' => hn f' (mem_withoutF.2 ⟨hf', fun e2 => e (e'.symm.trans e2)⟩) e'
      · obtain ⟨m1, m2⟩ := mem_withoutF.1 h2
        exact c3 _ _ (hin f2 m1).2.2.2 ((c2 _ _ (hin f2 m1).2.2.2 (hin f2 m1).2.1).other _ _ (fun e => m2 (hinj f2 m1 f hm e)))
    have hgl := q2.1
    generalize G f.name = g at *
    clear hin hinj hno htidy hf hok hsz hhas
    have hmx : fs.length < maxLen := by unfold maxLen; omega
    obtain ⟨c0, _⟩ := q2.2 0 _ rfl
    obtain ⟨c1, _⟩ := q2.2 1 _ rfl
    obtain ⟨c2, _⟩ := q2.2 2 _ rfl
    simp only [Option.bind_some]
    generalize hR : (if f.kept = (f.text.size : Int) ∧ t ≠ f.name ∧ (1 ≤ t.size ∧ t.size ≤ 8) then some (putF ⟨t, f.text, f.kept⟩ (withoutF f.name fs)) else none) = R
    have HR : Hid ((if f.kept = (f.text.size : Int) ∧ t ≠ f.name ∧ (1 ≤ t.size ∧ t.size ≤ 8) then some (putF ⟨t, f.text, f.kept⟩ (withoutF f.name fs)) else none) = R) := hR
    clear hR
    go_enter Try.func41, Try.ntmps41
    go_wp2_with (at_lookup; refine wpList_there _ rfl _ _ 50 rfl 9 72 lawK Try.underlying50 (zeroPtr _) b fs.length D rfl hown _ _ rfl hkey g q1 ?_)
    refine (allKept_any f _).mono ?_
    generalize hD : decide (f.kept = (f.text.size : Int)) = K
    rintro e w1 ⟨rfl, hb1⟩
    have HB1 : Hid (Below w.heap.size w w1) := hb1
    have hown1 := own_below' hown hb1
    have hq1 := (q2.grow hb1).2 0 _ rfl
    clear hb1 c0 c1 c2
    cases K with
    | false =>
      have HE : Hid (R = none) := HR.out.symm.trans (if_neg (fun h => of_decide_eq_false hD h.1))
      clear HU hq1
      go_wp2_with fail
      go_ret
      rw [HE.out]
      exact ⟨rfl, HSH.out.keep HB1.out, HB1.out.mono hBw⟩
    | true =>
      have hK : f.kept = (f.text.size : Int) := of_decide_eq_true hD
      have HK : Hid (f.kept = (f.text.size : Int)) := hK
      clear hD hK
      by_cases hne : t = f.name
      · have HE : Hid (R = none) := HR.out.symm.trans (if_neg (fun h => h.2.1 hne))
        have he : (t.toList == f.name.toList) = true := by rw [hne]; simp
        clear HU hne hq1
        go_wp2_with fail
        go_ret
        rw [HE.out]
        exact ⟨rfl, HSH.out.keep HB1.out, HB1.out.mono hBw⟩
      · have he := str_ne hne
        have HNE : Hid (t ≠ f.name) := hne
        clear hne
        by_cases h2 : decide (1 ≤ t.size ∧ t.size ≤ 8) = true
        · have HE : Hid (R = some (putF ⟨t, f.text, f.kept⟩ (withoutF f.name fs))) := HR.out.symm.trans (if_pos ⟨HK.out, HNE.out, of_decide_eq_true h2⟩)
          go_wp2_with fail
          refine (fileNameOk_is t _ true h2).mono ?_
          intro e w2 hw2
          obtain ⟨rfl, hww⟩ := hw2
          rw [hww]
          clear hww w2
          go_wp2_with (first | (at_delete; refine wpList_delete_own _ rfl _ _ 50 9 rfl 72 lawK Try.underlying50 ptrElem b fs.length D rfl hown1 _ _ rfl hkey ?_; intro w2 hown2 hturn2; have hd1 := (cell_grown hturn2.grown ⟨g, 0, none⟩ (Nat.lt_of_lt_of_le hgl HB1.out.size) (fun e => q4 (by simpa using e.symm))).trans hq1.1; have hd2 := (frozen_grown hturn2.grown ⟨g, 0, none⟩ (Nat.lt_of_lt_of_le hgl HB1.out.size) (fun e => q4 (by simpa using e.symm))).trans hq1.2; have hown3 := hown2.setCell (a := ⟨g, 0, none⟩) (fun e => q4 e.symm) (.string t)) | (at_mapUpdate; refine wpList_mapUpdate_in _ rfl _ _ _ 50 rfl 9 72 lawK Try.underlying50 ptrElem b fs.length (D.del (kl f.name)) rfl hown3 hmx _ _ _ rfl rfl hkt (.lit (.int .i64 g)) [] rfl ?_; intro w3 hown4 hturn4))
          go_ret
          rw [HE.out]
          exact HU.out w1 w2 w3 HB1.out hturn2 hown4 hturn4
        · have h2' : decide (1 ≤ t.size ∧ t.size ≤ 8) = false := by simpa using h2
          have HE : Hid (R = none) := HR.out.symm.trans (if_neg (fun h => of_decide_eq_false h2' h.2.2))
          clear HU hq1
          go_wp2_with fail
          refine (fileNameOk_is t _ false h2').mono ?_
          intro e w2 hw2
          obtain ⟨rfl, hww⟩ := hw2
          rw [hww]
          clear hww w2
          go_wp2_with fail
          go_ret
          rw [HE.out]
          exact ⟨rfl, HSH.out.keep HB1.out, HB1.out.mono hBw⟩
end Go.Proofs.Ytplcdcfhfaghiaa
/- ShD: An act on the shelf. -/
namespace Go.Proofs.Ytplcdcfhfaghiaa
set_option maxRecDepth 100000
open Go.RowKit Go.Maps
attribute [local go_sem ↓] Go.wp_at_zero Go.wp_at_succ

theorem not_empty {s : ByteArray} (h : s ≠ ⟨#[]⟩) : s.toList.isEmpty = false := by
  rw [ByteArray.toList_eq]
  cases hs : s.data.toList with
  | nil => exact absurd (ByteArray.ext (by simpa using hs)) h
  | cons x xs => rfl
theorem addR (b B : Nat) (fs : List FM) (n t : ByteArray) (w : World) (R : Option (List FM)) (hR : doA fs ⟨1, n, t, ⟨#[]⟩⟩ = R) (hsh : Shelf w B b fs) (hok : DOk fs) (hn : n.size ≤ 9223372036854775807) (ht : t.size ≤ 1048576) (hBw : B ≤ w.heap.size) :
    Calls Try.prog 39 #[.map (some b), .string n, .string t] w fun e w' => ShPost R fs B b w e w' := hR ▸ shAdd_any b B fs n t w hsh hok hn ht hBw
theorem keepR (b B : Nat) (fs : List FM) (n : ByteArray) (w : World) (R : Option (List FM)) (hR : doA fs ⟨2, n, ⟨#[]⟩, ⟨#[]⟩⟩ = R) (hsh : Shelf w B b fs) (hok : DOk fs) (hn : n.size ≤ 9223372036854775807) :
    Calls Try.prog 40 #[.map (some b), .string n] w fun e w' => ShPost R fs B b w e w' := by
  rw [← hR, doA_keep hok]; exact keep_any b B fs n w hsh hok hn
theorem dropR (b B : Nat) (fs : List FM) (n : ByteArray) (w : World) (R : Option (List FM)) (hR : doA fs ⟨4, n, ⟨#[]⟩, ⟨#[]⟩⟩ = R) (hsh : Shelf w B b fs) (hok : DOk fs) (hn : n.size ≤ 9223372036854775807) :
    Calls Try.prog 42 #[.map (some b), .string n] w fun e w' => ShPost R fs B b w e w' := by
  rw [← hR, doA_drop hok]; exact drop_any b B fs n w hsh hok hn
theorem moveR (b B : Nat) (fs : List FM) (n t : ByteArray) (w : World) (R : Option (List FM)) (hR : doA fs ⟨3, n, ⟨#[]⟩, t⟩ = R) (hsh : Shelf w B b fs) (hok : DOk fs) (hn : n.size ≤ 9223372036854775807) (ht : t.size ≤ 9223372036854775807) (hBw : B ≤ w.heap.size) :
    Calls Try.prog 41 #[.map (some b), .string n, .string t] w fun e w' => ShPost R fs B b w e w' := hR ▸ move_any b B fs n t w hsh hok hn ht hBw
set_option maxHeartbeats 4000000 in
set_option maxRecDepth 100000 in
theorem do_any (b B : Nat) (fs : List FM) (a : AM) (w : World) (hsh : Shelf w B b fs) (hok : DOk fs) (hn : a.name.size ≤ 9223372036854775807) (ht : a.text.size ≤ 1048576) (ho : a.dst.size ≤ 9223372036854775807) (hBw : B ≤ w.heap.size) :
    Calls Try.prog 21 #[.map (some b), av a] w fun e w' => ShPost (doA fs a) fs B b w e w' := by
  obtain ⟨k, n, t, o⟩ := a
  have HSH : Hid (Shelf w B b fs) := hsh
  have HOK : Hid (DOk fs) := hok
  have hBa : ∀ x : Obj, B ≤ (w.alloc x).heap.size := fun x => by simp; omega
  simp only at hn ht ho
  clear hsh hok
  by_cases ht0 : t = ⟨#[]⟩
  · by_cases ho0 : o = ⟨#[]⟩
    · subst ht0 ho0
      by_cases k1 : k = 1
      · subst k1
        have HB : Hid (Below w.heap.size w (w.alloc (.cells #[.int .i64 1, .string n, .string ⟨#[]⟩, .string ⟨#[]⟩] 37))) := (Below.refl _ _).alloc (Nat.le_refl _) _
        generalize hRe : doA fs ⟨1, n, ⟨#[]⟩, ⟨#[]⟩⟩ = R at *
        have HRe : Hid (doA fs ⟨1, n, ⟨#[]⟩, ⟨#[]⟩⟩ = R) := hRe
        clear hRe
        go_enter Try.func21, Try.ntmps21
        go_wp2_with fail
        refine (addR b B fs n ⟨#[]⟩ _ R HRe.out (HSH.out.keep HB.out) HOK.out hn ht (hBa _)).mono ?_
        rintro e w1 ⟨he, hs1, hb1⟩
        subst he
        go_wp2_with fail
        go_ret
        exact ⟨rfl, hs1, (HB.out.mono hBw).trans hb1⟩
      · by_cases k2 : k = 2
        · subst k2
          have HB : Hid (Below w.heap.size w (w.alloc (.cells #[.int .i64 2, .string n, .string ⟨#[]⟩, .string ⟨#[]⟩] 37))) := (Below.refl _ _).alloc (Nat.le_refl _) _
          generalize hRe : doA fs ⟨2, n, ⟨#[]⟩, ⟨#[]⟩⟩ = R at *
          have HRe : Hid (doA fs ⟨2, n, ⟨#[]⟩, ⟨#[]⟩⟩ = R) := hRe
          clear hRe
          go_enter Try.func21, Try.ntmps21
          go_wp2_with fail
          refine (keepR b B fs n _ R HRe.out (HSH.out.keep HB.out) HOK.out hn).mono ?_
          rintro e w1 ⟨he, hs1, hb1⟩
          subst he
          go_wp2_with fail
          go_ret
          exact ⟨rfl, hs1, (HB.out.mono hBw).trans hb1⟩
        · by_cases k3 : k = 3
          · subst k3
            have HB : Hid (Below w.heap.size w (w.alloc (.cells #[.int .i64 3, .string n, .string ⟨#[]⟩, .string ⟨#[]⟩] 37))) := (Below.refl _ _).alloc (Nat.le_refl _) _
            generalize hRe : doA fs ⟨3, n, ⟨#[]⟩, ⟨#[]⟩⟩ = R at *
            have HRe : Hid (doA fs ⟨3, n, ⟨#[]⟩, ⟨#[]⟩⟩ = R) := hRe
            clear hRe
            go_enter Try.func21, Try.ntmps21
            go_wp2_with fail
            refine (moveR b B fs n ⟨#[]⟩ _ R HRe.out (HSH.out.keep HB.out) HOK.out hn ho (hBa _)).mono ?_
            rintro e w1 ⟨he, hs1, hb1⟩
            subst he
            go_wp2_with fail
            go_ret
            exact ⟨rfl, hs1, (HB.out.mono hBw).trans hb1⟩
          · by_cases k4 : k = 4
            · subst k4
              have HB : Hid (Below w.heap.size w (w.alloc (.cells #[.int .i64 4, .string n, .string ⟨#[]⟩, .string ⟨#[]⟩] 37))) := (Below.refl _ _).alloc (Nat.le_refl _) _
              generalize hRe : doA fs ⟨4, n, ⟨#[]⟩, ⟨#[]⟩⟩ = R at *
              have HRe : Hid (doA fs ⟨4, n, ⟨#[]⟩, ⟨#[]⟩⟩ = R) := hRe
              clear hRe
              go_enter Try.func21, Try.ntmps21
              go_wp2_with fail
              refine (dropR b B fs n _ R HRe.out (HSH.out.keep HB.out) HOK.out hn).mono ?_
              rintro e w1 ⟨he, hs1, hb1⟩
              subst he
              go_wp2_with fail
              go_ret
              exact ⟨rfl, hs1, (HB.out.mono hBw).trans hb1⟩
            · rw [doA_kind ⟨k1, k2, k3, k4⟩]
              have HB : Hid (Below w.heap.size w (w.alloc (.cells #[.int .i64 k, .string n, .string ⟨#[]⟩, .string ⟨#[]⟩] 37))) := (Below.refl _ _).alloc (Nat.le_refl _) _
              go_enter Try.func21, Try.ntmps21
              go_wp2_with fail
              go_ret
              exact ⟨rfl, HSH.out.keep HB.out, HB.out.mono hBw⟩
    · subst ht0
      have hoe : o.toList.isEmpty = false := not_empty ho0
      by_cases k3 : k = 3
      · subst k3
        clear ho0
        have HB : Hid (Below w.heap.size w (w.alloc (.cells #[.int .i64 3, .string n, .string ⟨#[]⟩, .string o] 37))) := (Below.refl _ _).alloc (Nat.le_refl _) _
        generalize hRe : doA fs ⟨3, n, ⟨#[]⟩, o⟩ = R at *
        have HRe : Hid (doA fs ⟨3, n, ⟨#[]⟩, o⟩ = R) := hRe
        clear hRe
        go_enter Try.func21, Try.ntmps21
        go_wp2_with fail
        refine (moveR b B fs n o _ R HRe.out (HSH.out.keep HB.out) HOK.out hn ho (hBa _)).mono ?_
        rintro e w1 ⟨he, hs1, hb1⟩
        subst he
        go_wp2_with fail
        go_ret
        exact ⟨rfl, hs1, (HB.out.mono hBw).trans hb1⟩
      · by_cases k1 : k = 1
        · subst k1
          rw [doA_wrong (.inr ⟨(by decide : (1 : Int) ≠ 3), ho0⟩)]
          have HB : Hid (Below w.heap.size w (w.alloc (.cells #[.int .i64 1, .string n, .string ⟨#[]⟩, .string o] 37))) := (Below.refl _ _).alloc (Nat.le_refl _) _
          clear ho0
          go_enter Try.func21, Try.ntmps21
          go_wp2_with fail
          go_ret
          exact ⟨rfl, HSH.out.keep HB.out, HB.out.mono hBw⟩
        · rw [doA_wrong (.inr ⟨k3, ho0⟩)]
          have HB : Hid (Below w.heap.size w (w.alloc (.cells #[.int .i64 k, .string n, .string ⟨#[]⟩, .string o] 37))) := (Below.refl _ _).alloc (Nat.le_refl _) _
          have k3' : (k != 3) = true := by simpa using k3
          have k1' : (k != 1) = true := by simpa using k1
          clear ho0 k1 k3
          go_enter Try.func21, Try.ntmps21
          go_wp2_with fail
          go_ret
          exact ⟨rfl, HSH.out.keep HB.out, HB.out.mono hBw⟩
  · have hte : t.toList.isEmpty = false := not_empty ht0
    by_cases k1 : k = 1
    · subst k1
      by_cases ho0 : o = ⟨#[]⟩
      · subst ho0
        clear ht0
        have HB : Hid (Below w.heap.size w (w.alloc (.cells #[.int .i64 1, .string n, .string t, .string ⟨#[]⟩] 37))) := (Below.refl _ _).alloc (Nat.le_refl _) _
        generalize hRe : doA fs ⟨1, n, t, ⟨#[]⟩⟩ = R at *
        have HRe : Hid (doA fs ⟨1, n, t, ⟨#[]⟩⟩ = R) := hRe
        clear hRe
        go_enter Try.func21, Try.ntmps21
        go_wp2_with fail
        refine (addR b B fs n t _ R HRe.out (HSH.out.keep HB.out) HOK.out hn ht (hBa _)).mono ?_
        rintro e w1 ⟨he, hs1, hb1⟩
        subst he
        go_wp2_with fail
        go_ret
        exact ⟨rfl, hs1, (HB.out.mono hBw).trans hb1⟩
      · have hoe : o.toList.isEmpty = false := not_empty ho0
        rw [doA_wrong (.inr ⟨(by decide : (1 : Int) ≠ 3), ho0⟩)]
        have HB : Hid (Below w.heap.size w (w.alloc (.cells #[.int .i64 1, .string n, .string t, .string o] 37))) := (Below.refl _ _).alloc (Nat.le_refl _) _
        clear ho0 ht0
        go_enter Try.func21, Try.ntmps21
        go_wp2_with fail
        go_ret
        exact ⟨rfl, HSH.out.keep HB.out, HB.out.mono hBw⟩
    · rw [doA_wrong (.inl ⟨k1, ht0⟩)]
      have HB : Hid (Below w.heap.size w (w.alloc (.cells #[.int .i64 k, .string n, .string t, .string o] 37))) := (Below.refl _ _).alloc (Nat.le_refl _) _
      have k1' : (k != 1) = true := by simpa using k1
      clear ht0 k1
      go_enter Try.func21, Try.ntmps21
      go_wp2_with fail
      go_ret
      exact ⟨rfl, HSH.out.keep HB.out, HB.out.mono hBw⟩
end Go.Proofs.Ytplcdcfhfaghiaa
/- ShE: The shelf of a disk. -/
namespace Go.Proofs.Ytplcdcfhfaghiaa
set_option maxRecDepth 100000
open Go.RowKit Go.Maps
attribute [local go_sem ↓] Go.wp_at_zero Go.wp_at_succ

theorem put_last {fs : List FM} {f : FM} (h : ∀ g ∈ fs, nm g < nm f) : putF f fs = fs ++ [f] := by
  have h1 : lessF f fs = fs := by
    unfold lessF
    rw [List.filter_eq_self]
    intro g hg
    rw [bytesLess_eq, nm_toList, nm_toList]
    exact decide_eq_true (h g hg)
  have h2 : moreF f fs = [] := by
    rw [List.eq_nil_iff_forall_not_mem]
    intro g hg
    obtain ⟨m1, m2⟩ := mem_more.1 hg
    exact List.lt_asymm (h g m1) m2
  unfold putF
  rw [h1, h2, List.append_nil]
theorem Shelf.empty (w : World) (B : Nat) (h : B ≤ w.heap.size) : Shelf (w.alloc (.map #[] 0)) B w.heap.size [] :=
  ⟨h, .map [], fun _ => 0, World.ownsMap_made w _ _ _, rfl, by simp, by simp, fun n _ => rfl⟩
def ShOf (fs : List FM) (w : World) (e : Ending) (w' : World) : Prop := ∃ b, e = .returned (.map (some b)) ∧ Shelf w' w.heap.size b fs ∧ Below w.heap.size w w'
set_option maxHeartbeats 2000000 in
set_option maxRecDepth 100000 in
theorem shelfOf_any (a : Option Addr) (fs : List FM) (cap : Nat) (w : World) (hr : FRow w a fs) (hok : DOk fs) :
    Calls Try.prog 20 #[.agg #[.slice a fs.length cap]] w fun e w' => ShOf fs w e w' := by
  have HR : Hid (FRow w a fs) := hr
  have HOK : Hid (DOk fs) := hok
  have h30 := hok.1
  have hb0 : Below w.heap.size w ((w.alloc (.cells #[.slice a fs.length cap] 26)).alloc (.map #[] 0)) := ((Below.refl _ _).alloc (Nat.le_refl _) _).alloc (by simp) _
  have HB0 : Hid (Below w.heap.size w ((w.alloc (.cells #[.slice a fs.length cap] 26)).alloc (.map #[] 0))) := hb0
  have HX : Hid (WCells ((w.alloc (.cells #[.slice a fs.length cap] 26)).alloc (.map #[] 0)) w.heap.size [.slice a fs.length cap]) := (wcells_new w #[.slice a fs.length cap] 26).alloc _
  have hs0 := Shelf.empty (w.alloc (.cells #[.slice a fs.length cap] 26)) w.heap.size (by simp)
  rw [World.size_alloc] at hs0
  have HS0 : Hid (Shelf ((w.alloc (.cells #[.slice a fs.length cap] 26)).alloc (.map #[] 0)) w.heap.size (w.heap.size + 1) []) := hs0
  clear hr hok hb0 hs0
  have hmm := @run_makeMap Try.prog
  go_enter Try.func20, Try.ntmps20
  go_wp2_with fail
  go_loopw [10] (fun i wr => ∃ (k : Nat), i = .int .i64 k ∧ k ≤ fs.length ∧ Shelf wr w.heap.size (w.heap.size + 1) (fs.take k) ∧ Below w.heap.size w wr) (fun i _ => fs.length - (intOf i).toNat)
  case atStart => exact ⟨0, rfl, Nat.zero_le _, by simpa using HS0.out, HB0.out⟩
  case round =>
    clear HS0 HX HB0
    obtain ⟨k, rfl, hk, hsh, hb⟩ := hrel
    have HB : Hid (Below w.heap.size w wr) := hb
    by_cases hlt : k < fs.length
    · obtain ⟨b, off, rfl, lb, hc⟩ := FRow.at (HR.out.stays hb) (by omega)
      obtain ⟨d0, d1, d2⟩ := hc k hlt
      have hfo := HOK.out.ok fs[k] (List.getElem_mem hlt)
      have hup := HOK.out.up
      have hless : ∀ g ∈ fs.take k, nm g < nm fs[k] := fun g hg => by
        obtain ⟨j, hj, rfl⟩ := List.getElem_of_mem hg
        have hj' : j < k := by simp at hj; omega
        rw [List.getElem_take]
        exact List.pairwise_iff_getElem.1 hup j k (by omega) hlt hj'
      have hupk : UpN (fs.take k) := hup.sublist (List.take_sublist _ _)
      have hput : putF fs[k] (fs.take k) = fs.take (k + 1) := by rw [put_last hless, ← take_snoc fs k hlt]
      have hnone : ∀ g ∈ fs.take k, g.name ≠ fs[k].name := fun g hg e => by
        have := hless g hg
        rw [show nm g = nm fs[k] by rw [nm, nm, e]] at this
        exact List.lt_irrefl _ this
      have hlen : (fs.take k).length = k := by simp; omega
      obtain ⟨f, hfe⟩ : ∃ f, f = fs[k] := ⟨_, rfl⟩
      rw [← hfe] at d0 d1 d2 hfo hput hnone
      have hkey := kl_key f.name (by have := hfo.1.2; unfold maxLen; omega)
      have hik := isKey_kl f.name (by have := hfo.1.2; unfold maxLen; omega)
      obtain ⟨hB, D, G, hown, hsz, hin, hinj, hno⟩ := hsh
      have hab := hno f.name hnone
      have htidy := hown.tidy lawK
      have hbl := hown.lt
      have HU : Hid (∀ w2 : World, w2.ownsMap Try.prog 9 ptrElem (w.heap.size + 1) ((fs.take k).length + 1) (D.put (kl f.name) (.lit (.int .i64 wr.heap.size))) → (wr.alloc (.cells #[.string f.name, .string f.text, .int .i64 f.kept] 55)).mapTurned w2 (w.heap.size + 1) → Shelf w2 w.heap.size (w.heap.size + 1) (fs.take (k + 1)) ∧ Below w.heap.size w w2) := by
        intro w2 ho ht
        have hcell : ∀ g X, g ≠ w.heap.size + 1 → WCells (wr.alloc (.cells #[.string f.name, .string f.text, .int .i64 f.kept] 55)) g X → WCells w2 g X := fun g X hg hc => wc_grown hc ht.grown (fun e => hg (by simpa using e.symm))
        refine ⟨?_, below_turned (HB.out.alloc HB.out.size _) ht hB (by have := HB.out.size; simp; omega)⟩
        rw [← hput]
        refine Shelf.put (D := D) (G := G) (g := wr.heap.size) hB ho ?_ (fun f2 h2 => ⟨(hin f2 h2).1, (hin f2 h2).2.2⟩) hinj hno (fun l hl => ⟨fun z => Maps.atKey_put_other hl _ z, Maps.has_put_other hl _⟩) (fun z => Maps.atKey_put_same hown.isMap hik _ z) (hcell _ _ (by omega) (wcells_new wr #[.string f.name, .string f.text, .int .i64 f.kept] 55)) (fun f2 h2 hne => ?_) (fun f2 h2 hne => ?_) HB.out.size (by omega)
        · rw [Maps.size_put htidy, hab, put_len hupk, without_none hnone, hsz]; rfl
        · exact hcell _ _ (hin f2 h2).2.2.2 ((hin f2 h2).2.1.alloc _)
        · have := (hin f2 h2).2.1.1; omega
      have hown1 := hown.alloc (.cells #[.string f.name, .string f.text, .int .i64 f.kept] 55)
      have hmx : (fs.take k).length < maxLen := by unfold maxLen; omega
      have k0 : (0 : Int) ≤ (k : Int) := by omega
      have k1 : (k : Int) < (fs.length : Int) := by omega
      clear hfe hc hb hless hup hupk hput hnone hin hinj hno htidy hfo hown hab
      go_wp2_with (at_mapUpdate; refine wpList_mapUpdate_in _ rfl _ _ _ 50 rfl 9 72 lawK Try.underlying50 ptrElem (w.heap.size + 1) (fs.take k).length D rfl hown1 hmx _ _ _ rfl rfl hkey (.lit (.int .i64 wr.heap.size)) [] rfl ?_; intro w2 hown2 hturn2)
      obtain ⟨h1, h2⟩ := HU.out w2 hown2 hturn2
      go_roundw
      case rel => exact ⟨k + 1, by go_num, by omega, h1, h2⟩
      case measure => simp [intOf]; omega
    · have e : k = fs.length := by omega
      subst e
      rw [List.take_length] at hsh
      clear hb
      go_wp2_with fail
      go_ret
      exact ⟨_, rfl, hsh, HB.out⟩
end Go.Proofs.Ytplcdcfhfaghiaa
/- StrsA: Slices of strings: how they are held against each other. -/
namespace Go.Proofs.Ytplcdcfhfaghiaa
set_option maxRecDepth 100000
open Go.RowKit

theorem drewN_two (w : World) (a b : Nat) : (w.drewN a).drewN b = w.drewN (a + b) := by simp [World.drewN, Nat.add_assoc]
/-- A slice of strings, as it reads. -/
def SRow (w : World) (a : Option Addr) (xs : List ByteArray) : Prop :=
  0 < xs.length → ∃ g, a = some ⟨g, 0, none⟩ ∧ g < w.heap.size ∧ ∀ j, j < xs.length → w.cell? ⟨g, j, none⟩ = some (.string (xs.getD j ⟨#[]⟩))

def eqS (xs ys : List ByteArray) : Bool := decide (xs = ys)
theorem eqS_len (xs ys : List ByteArray) (h : xs.length ≠ ys.length) : eqS xs ys = false := by
  unfold eqS; rw [decide_eq_false]; intro e; rw [e] at h; exact h rfl
/-- The first k are the same. -/
def sameTo (xs ys : List ByteArray) (k : Nat) : Prop := ∀ j, j < k → xs.getD j ⟨#[]⟩ = ys.getD j ⟨#[]⟩
theorem eqS_yes (xs ys : List ByteArray) (h : xs.length = ys.length) (hs : sameTo xs ys xs.length) : eqS xs ys = true := by
  unfold eqS; rw [decide_eq_true]
  apply List.ext_getElem h
  intro j h1 h2
  have := hs j h1
  simpa [List.getD, h1, h2] using this
theorem eqS_no (xs ys : List ByteArray) (k : Nat) (h : xs.getD k ⟨#[]⟩ ≠ ys.getD k ⟨#[]⟩) : eqS xs ys = false := by
  unfold eqS; rw [decide_eq_false]; intro e; rw [e] at h; exact h rfl
theorem sameTo_step (xs ys : List ByteArray) (k : Nat) (h : sameTo xs ys k) (hk : xs.getD k ⟨#[]⟩ = ys.getD k ⟨#[]⟩) : sameTo xs ys (k + 1) := by
  intro j hj
  by_cases e : j = k
  · subst e; exact hk
  · exact h j (by omega)

end Go.Proofs.Ytplcdcfhfaghiaa
/- StrsB: Slices of strings: marks that are laid into one, and found again. -/
namespace Go.Proofs.Ytplcdcfhfaghiaa
set_option maxRecDepth 100000
open Go.RowKit
attribute [local go_sem ↓] Go.wp_at_zero Go.wp_at_succ

/-- The text of a mark. -/
def mt (k : Nat) : ByteArray := (⟨#[109]⟩ : ByteArray) ++ ⟨(W.decS k).toArray⟩

/-- Marks from k on. -/
def marks (k n : Nat) : List ByteArray := (List.range n).map fun j => mt (k + j)
theorem marks_len (k n : Nat) : (marks k n).length = n := by simp [marks]
theorem marks_at (k n j : Nat) (h : j < n) : (marks k n).getD j ⟨#[]⟩ = mt (k + j) := by simp [marks, List.getD, h]

/-- A row of strings that may be written. -/
def WRow (w : World) (g : Nat) (xs : List ByteArray) : Prop :=
  g < w.heap.size ∧ ∀ j, j < xs.length → w.cell? ⟨g, j, none⟩ = some (.string (xs.getD j ⟨#[]⟩)) ∧ w.frozen? ⟨g, j, none⟩ = false
theorem WRow.srow {w : World} {g : Nat} {xs : List ByteArray} (h : WRow w g xs) : SRow w (some ⟨g, 0, none⟩) xs := fun _ => ⟨g, rfl, h.1, fun j hj => (h.2 j hj).1⟩
theorem WRow.below {w w' : World} {g B : Nat} {xs : List ByteArray} (h : WRow w g xs) (hb : Below B w w') (hg : g < B) : WRow w' g xs :=
  ⟨Nat.lt_of_lt_of_le h.1 hb.size, fun j hj => ⟨(hb.cell (p := ⟨g, j, none⟩) hg).trans (h.2 j hj).1, (hb.frozen (p := ⟨g, j, none⟩) hg).trans (h.2 j hj).2⟩⟩
theorem WRow.set {w : World} {g : Nat} {xs : List ByteArray} (h : WRow w g xs) (i : Nat) (x : ByteArray) (hi : i < xs.length) : WRow (w.setCell ⟨g, i, none⟩ (.string x)) g (xs.set i x) := by
  refine ⟨by have := h.1; simpa [World.setCell] using this, fun j hj => ?_⟩
  rw [List.length_set] at hj
  refine ⟨?_, (World.frozen?_setCell _ _ _ _).trans (h.2 j hj).2⟩
  by_cases e : j = i
  · subst e
    rw [World.cell?_setCell_same _ _ _ (h.2 j hj).1]
    simp [List.getD, hi]
  · rw [World.cell?_setCell_other _ _ _ _ (by first | (simp; done) | (simp; omega)), (h.2 j hj).1]
    simp [List.getD, Ne.symm e]
theorem grownBy_setCell (w : World) (g i : Nat) (v : Value) : w.grownBy (w.setCell ⟨g, i, none⟩ v) (some g) :=
  ⟨rfl, rfl, rfl, by simp [World.setCell], fun k _ hk => Below.heap_setCell _ _ _ _ (fun e => hk (by rw [e]))⟩
theorem grownBy_below {w w' : World} {g : Nat} (h : Below w.heap.size w w') : w.grownBy w' (some g) := ⟨h.os, h.tape, h.output, h.size, fun k hk _ => h.block k hk⟩
theorem grownBy_two {a b c : World} {g : Nat} (h : a.grownBy b (some g)) (k : b.grownBy c (some g)) : a.grownBy c (some g) :=
  ⟨k.os.trans h.os, k.tape.trans h.tape, k.output.trans h.output, Nat.le_trans h.size k.size, fun i hi hn => (k.block i (Nat.lt_of_lt_of_le hi h.size) hn).trans (h.block i hi hn)⟩

theorem set_marks {k j : Nat} {ys : List ByteArray} (h : ∀ t, t < j → ys.getD t ⟨#[]⟩ = mt (k + t)) (hj : j < ys.length) : ∀ t, t < j + 1 → (ys.set j (mt (k + j))).getD t ⟨#[]⟩ = mt (k + t) := by
  intro t ht
  by_cases e : t = j
  · subst e; simp [List.getD, hj]
  · have := h t (by omega)
    simpa [List.getD, List.getElem?_set, Ne.symm e] using this
theorem wrow_marks {w : World} {g k n : Nat} {ys : List ByteArray} (h : WRow w g ys) (hl : ys.length = n) (hy : ∀ t, t < n → ys.getD t ⟨#[]⟩ = mt (k + t)) : WRow w g (marks k n) := by
  refine ⟨h.1, fun j hj => ?_⟩
  rw [marks_len] at hj
  have := h.2 j (by omega)
  rw [marks_at k n j hj, ← hy j hj]
  exact this
end Go.Proofs.Ytplcdcfhfaghiaa
/- DiskN: Rows of files: marks that are laid into one, and found again. -/
namespace Go.Proofs.Ytplcdcfhfaghiaa
set_option maxRecDepth 100000
open Go.RowKit
attribute [local go_sem ↓] Go.wp_at_zero Go.wp_at_succ

/-- The file that bears the marks from k on. -/
def markF (k : Nat) : FM := ⟨mt k, mt (k + 1), ((k + 2 : Nat) : Int)⟩
def marksF (k n : Nat) : List FM := (List.range n).map fun j => markF (k + 3 * j)
theorem marksF_len (k n : Nat) : (marksF k n).length = n := by simp [marksF]
theorem marksF_at (k n j : Nat) (h : j < (marksF k n).length) : (marksF k n)[j] = markF (k + 3 * j) := by simp [marksF]
theorem marked_all {k n : Nat} {ys : List FM} (hl : ys.length = n) (h : ∀ t, t < n → ys.getD t default = markF (k + 3 * t)) : ys = marksF k n := by
  apply List.ext_getElem
  · rw [hl, marksF_len]
  · intro i h1 h2
    rw [marksF_at]
    have := h i (by omega)
    simpa [List.getD, h1] using this
theorem fcs_three (ys : List FM) (j : Nat) (hj : j < ys.length) (f : FM) : (((fcs ys).set (j * 3) (.string f.name)).set (j * 3 + 1) (.string f.text)).set (j * 3 + 2) (.int .i64 f.kept) = fcs (ys.set j f) :=
  flat_setL fcells_len ys j hj f
def MarkPost (g k n : Nat) (w : World) (e : Ending) (w' : World) : Prop := e = .returned (.int .i64 (k + 3 * n : Nat)) ∧ WCells w' g (fcs (marksF k n)) ∧ w.grownBy w' (some g)
end Go.Proofs.Ytplcdcfhfaghiaa
/- DiskP: Disks: marks that are laid into one, and found again; what the power leaves of one. -/
namespace Go.Proofs.Ytplcdcfhfaghiaa
set_option maxRecDepth 100000
open Go.RowKit
attribute [local go_sem ↓] Go.wp_at_zero Go.wp_at_succ

end Go.Proofs.Ytplcdcfhfaghiaa
/- LawD: What lies in memory through a law on disks: boxes, and rows of their own; what a call that makes a disk answers; marks in such a row. -/
namespace Go.Proofs.Ytplcdcfhfaghiaa
set_option maxRecDepth 100000
open Go.RowKit
attribute [local go_sem ↓] Go.wp_at_zero Go.wp_at_succ

/-- A disk that a call has made, and what it tells beside it. -/
def DiskPost (fs : List FM) (r : Value) (w : World) (e : Ending) (w' : World) : Prop :=
  ∃ va c, e = .returned (.tuple #[.agg #[.slice va fs.length c], r]) ∧ FRw w' va (fcs fs) w.heap.size w'.heap.size ∧ fs.length ≤ c ∧ Below w.heap.size w w'
end Go.Proofs.Ytplcdcfhfaghiaa
/- ShF: The disk of a shelf: its names are collected, sorted, and their files copied. -/
namespace Go.Proofs.Ytplcdcfhfaghiaa
set_option maxRecDepth 100000
open Go.RowKit Go.Maps Go.Sort
attribute [local go_sem ↓] Go.wp_at_zero Go.wp_at_succ

/-- A pointer, out of a block. -/
def mkP : Option Nat → Value
  | some g => .pointer (some ⟨g, 0, none⟩)
  | none => .pointer none
theorem ptr_form {v : Value} {y : DataW Unit × List MemPlace} (h : ptrElem v = some y) : ∃ c, v = mkP c := by
  unfold ptrElem at h
  split at h
  · exact ⟨some _, rfl⟩
  · exact ⟨none, rfl⟩
  · cases h
theorem infoStrS : (Try.prog.info? 9).map (fun i => (i.zero, i.size, i.bytes)) = some (some (.string ⟨#[]⟩), 1, 16) := by kernel_rfl
theorem enc_nm (s : ByteArray) : encStr s.data.toList = .string s := by simp [encStr]
theorem sorted_names {fs : List FM} (hup : UpN fs) {ss : List (List UInt8)} (hp : ss.Perm (fs.map nm)) : (ss.mergeSort fun x y => decide (x ≤ y)) = fs.map nm := by
  have tr : ∀ a b c : List UInt8, leB a b = true → leB b c = true → leB a c = true := fun a b c h1 h2 => by simp only [leB, decide_eq_true_eq] at *; exact List.le_trans h1 h2
  have tt : ∀ a b : List UInt8, (leB a b || leB b a) = true := fun a b => by simp only [leB, Bool.or_eq_true, decide_eq_true_eq]; exact List.le_total a b
  refine List.Perm.eq_of_pairwise (le := fun a b => leB a b = true) (fun a b _ _ h1 h2 => ?_) (List.pairwise_mergeSort tr tt ss) ?_ ((List.mergeSort_perm ss leB).trans hp)
  · simp only [leB, decide_eq_true_eq] at h1 h2
    exact List.le_antisymm h1 h2
  · exact List.pairwise_map.2 (hup.imp fun {a b} h => decide_eq_true (List.le_of_lt h))
theorem names_perm {fs : List FM} (hup : UpN fs) {D : DataW Unit} {left : Lit → Bool} {ss : List (List UInt8)} (hC : Collected D left ss) (hl : ∀ l, left l = false) (hin : ∀ f ∈ fs, Maps.has D (kl f.name) = true) (hno : ∀ n : ByteArray, (∀ f ∈ fs, f.name ≠ n) → Maps.has D (kl n) = false) : ss.Perm (fs.map nm) := by
  refine (List.perm_ext_iff_of_nodup hC.1 ?_).2 fun x => ?_
  · exact List.pairwise_map.2 (hup.imp fun {a b} h e => by rw [e] at h; exact List.lt_irrefl _ h)
  · rw [hC.2 x, hl, List.mem_map]
    constructor
    · rintro ⟨h1, _⟩
      refine Classical.byContradiction fun hc => ?_
      have := hno ⟨x.toArray⟩ fun f hf e => hc ⟨f, hf, by rw [nm, e]⟩
      rw [kl] at this
      rw [this] at h1
      cases h1
    · rintro ⟨f, hf, rfl⟩
      exact ⟨hin f hf, rfl⟩
set_option maxHeartbeats 800000 in
set_option maxRecDepth 100000 in
theorem disk_any (b B : Nat) (fs : List FM) (w : World) (hsh : Shelf w B b fs) (hok : DOk fs) :
    Calls Try.prog 22 #[.map (some b)] w fun e w' => MadeDisk fs w e w' := by
  obtain ⟨i0, hi, hz0, hz1, hz2⟩ := info_parts infoStrS
  obtain ⟨j0, hj, hy0, hy1, hy2⟩ := info_parts infoFile
  have HOK : Hid (DOk fs) := hok
  have h30 := hok.1
  obtain ⟨hB, D, G, hown, hsz, hin, hinj, hno⟩ := hsh
  have hbl := hown.lt
  have HIN : Hid (∀ f ∈ fs, (∀ z, D.atKey (kl f.name) z = .lit (.int .i64 (G f.name))) ∧ WCells w (G f.name) (fcells f) ∧ B ≤ G f.name ∧ G f.name ≠ b) := hin
  have HNO : Hid (∀ n, (∀ f ∈ fs, f.name ≠ n) → Maps.has D (kl n) = false) := hno
  have hbl1 : b < (w.alloc (.cells #[.slice none 0 0] 26)).heap.size := by simp; omega
  have hownA := hown.alloc (.cells #[.slice none 0 0] 26)
  have HY0 : Hid (WCells (w.alloc (.cells #[.slice none 0 0] 26)) w.heap.size [.slice none 0 0]) := wcells_new w #[.slice none 0 0] 26
  have HB0 : Hid (Below w.heap.size w (w.alloc (.cells #[.slice none 0 0] 26))) := (Below.refl _ _).alloc (Nat.le_refl _) _
  have hmax : fs.length ≤ maxLen := by unfold maxLen; omega
  clear hok hin hinj hno hB
  go_enter Try.func22, Try.ntmps22
  go_wp2_with (first
    | (at_len; refine wpList_len_own _ rfl _ 50 rfl 9 72 Try.underlying50 ptrElem b fs.length D rfl hownA ?_)
    | (at_make; refine wpList_make_own _ rfl _ _ 66 rfl (w.heap.size + 1) 9 i0 (.string ⟨#[]⟩) 1 Try.underlying66 hi hz0 hz1 _ _ _ fs.length rfl rfl (by first | rfl | (rw [hsz]) | omega) (by rw [hz2]; omega) hmax (by simp) ?_; intro w1 hrow1 hg1)
    | (at_range; refine wpList_range_own _ rfl _ 50 rfl 9 72 lawK Try.underlying50 ptrElem b fs.length D rfl (hownA.kept hg1 (by simp)) ?_; intro w0 hrg0 hg0 hs0))
  go_frame
  have hb1 : Below w.heap.size w w1 := HB0.out.grown hg1 HB0.out.size (fun j hj => by cases hj)
  have hb2 : Below w.heap.size w w0 := hb1.grown hg0 hb1.size (fun j hj => by cases hj)
  have HY2 : Shut (WCells w0 w.heap.size [.slice none 0 0]) := ⟨wc_grown (wc_grown HY0.out hg1 (by simp)) hg0 (by simp)⟩
  have hws : w.heap.size + 1 < w1.heap.size := by have := (hrow1.lt _ rfl).2; simpa using this
  go_loopw [3] (fun v wr => ∃ (left : Lit → Bool) (cnt : Nat) (ss : List (List UInt8)), wr.ranges Try.prog 9 ptrElem b w1.heap.size fs.length D left cnt ∧ ss.length + cnt ≤ fs.length ∧
      wr.ownsRow (w.heap.size + 1) 9 1 v ss.length (ss.map encStr) ∧ v ≠ .slice none 0 0 ∧ Collected D left ss ∧ Shut (WCells wr w.heap.size [.slice none 0 0]) ∧ Below w.heap.size w wr ∧ w1.heap.size < wr.heap.size)
    (fun _ wr => wr.rangeLeft b w1.heap.size)
  case atStart =>
    exact ⟨_, _, [], hrg0, by simp [hsz], by have := hrow1.kept hg0 (Or.inr (by simp [Value.ownBlock])); simpa using this, by simp, Collected.start D, HY2, hb2, by omega⟩
  case round =>
    clear hrg0 HY2 hb2 hb1 hrow1 hg0 hs0 hownA
    obtain ⟨left, cnt, ss, hrg, hcs, hrow, hnn, hC, hy, hnx, hw1⟩ := hrel
    go_wp2_with (first
      | (at_next; refine wpList_next_ranges _ rfl _ rfl 9 lawK ptrElem encStr mkP (fun key kl hk => by obtain ⟨x, hx, _⟩ := Maps.keyOf_str Try.underlying9 hk; exact ⟨x, hx⟩) (fun v y hv => ptr_form hv) b w1.heap.size fs.length _ _ _ rfl hrg ?_ ?_))
    · intro hc0 hl0
      have hperm := names_perm HOK.out.up hC hl0 (fun f hf => Maps.has_true_of_atKey (HIN.out f hf).1) HNO.out
      have hsl : ss.length = fs.length := by rw [hperm.length_eq]; simp
      have hsort := sorted_names HOK.out.up hperm
      rcases hrow.2 with ⟨hnil, _⟩ | ⟨g, cap, cur, rfl, hbase, hb, h1, h2, h3, h4⟩
      · exact absurd hnil hnn
      have hH : Holds encStr wr g 0 ss.toArray := holds_of_block hb (by simpa using h4)
      have hgl : g < wr.heap.size := (Array.getElem?_eq_some_iff.1 hb).1
      have hc := Try.slices_Sort_string g 0 cap ss wr hH hgl (by omega)
      have hpost : ∀ (e : Ending) (w' : World), (e = .returned (.tuple #[]) ∧ ∃ n os, w' = grow (putRow encStr (Sort.ahead wr n) g 0 (ss.mergeSort fun x y => decide (x ≤ y)).toArray) os) → e = .returned (.tuple #[]) ∧ Shut (WCells w' g ((fs.map nm).map encStr)) ∧ Shut (WCells w' w.heap.size [.slice none 0 0]) ∧ Below w.heap.size w w' ∧ w.heap.size + 1 < w'.heap.size := by
        rintro e w' ⟨rfl, nn, os, rfl⟩
        have hrs := ownsRow_sorted (n := nn) (os := os) (ts := ss.mergeSort fun x y => decide (x ≤ y)) (by simp) hbase hb h1 h2 h3
        rw [hsort] at hrs ⊢
        have hgr := grownBy_sorted (w := wr) (g := g) (n := nn) (os := os) (fs.map nm).toArray
        refine ⟨rfl, ⟨own_wcells hrs⟩, ⟨wc_grown hy.out hgr (fun e => by simp at e; omega)⟩, hnx.grown hgr hnx.size (fun j hj => by cases hj; omega), by have := hgr.size; omega⟩
      have HC : Hid (Calls Try.prog 43 #[.slice (some ⟨g, 0, none⟩) ss.length cap] wr fun e w' => e = .returned (.tuple #[]) ∧ Shut (WCells w' g ((fs.map nm).map encStr)) ∧ Shut (WCells w' w.heap.size [.slice none 0 0]) ∧ Below w.heap.size w w' ∧ w.heap.size + 1 < w'.heap.size) := hc.mono hpost
      clear hpost hc hsort hperm hrow hb h1 h2 h3 h4 hH hrg hC hy hnx hnn hl0 hc0 hw1 hcs
      generalize ss.length = m at hsl HC ⊢
      subst hsl
      go_wp2_with (first
        | (go_at_call 43; refine HC.out.mono ?_; rintro e w3 ⟨rfl, hN, hy3, hnx3, hs3⟩)
        | (at_make; refine wpList_make_own _ rfl _ _ 24 rfl w3.heap.size 55 j0 _ 3 Try.underlying24 hj hy0 hy1 .i64 .i64 _ fs.length rfl rfl (by omega) (by rw [hy2]; omega) hmax (Nat.le_refl _) ?_; intro w4 hrow4 hg4))
      have hb4 : Below w3.heap.size w3 w4 := (Below.refl _ _).grown hg4 (Nat.le_refl _) (fun j hj => by cases hj)
      have HB4 : Hid (Below w3.heap.size w3 w4) := hb4
      have HR4 : Hid (w4.ownsRow w3.heap.size 55 3 (.slice (some ⟨w3.heap.size, 0, none⟩) 0 fs.length) 0 []) := hrow4
      clear HC hg4 hb4 hrow4
      go_loopw [5, 28] (fun v i wr => ∃ (k : Nat), i = .int .i64 k ∧ k ≤ fs.length ∧ wr.ownsRow w3.heap.size 55 3 v k (fcs (fs.take k)) ∧ Below w3.heap.size w3 wr) (fun _ i _ => fs.length - (intOf i).toNat)
      case atStart => exact ⟨0, rfl, Nat.zero_le _, by simpa [fcs] using HR4.out, HB4.out⟩
      case round =>
        clear HR4 HB4
        obtain ⟨k, rfl, hk, hown5, hb5⟩ := hrel
        have hbw : Below w.heap.size w wr := hnx3.trans (hb5.mono hnx3.size)
        by_cases hlt : k < fs.length
        · have hcell := (hN.out.2 k (.string fs[k].name) (by simp [hlt])).1
          rw [← hb5.cell (p := ⟨g, k, none⟩) hN.out.1] at hcell
          obtain ⟨q1, q2, _, _⟩ := HIN.out fs[k] (List.getElem_mem hlt)
          have hfo := HOK.out.ok fs[k] (List.getElem_mem hlt)
          have hstep : fcs (fs.take (k + 1)) = fcs (fs.take k) ++ [.string fs[k].name, .string fs[k].text, .int .i64 fs[k].kept] := by rw [take_snoc fs k hlt, fcs_snoc]
          obtain ⟨f, hfe⟩ : ∃ f, f = fs[k] := ⟨_, rfl⟩
          rw [← hfe] at hcell q1 q2 hfo hstep
          have q2' := q2.below hbw q2.1
          obtain ⟨c0, _⟩ := q2'.2 0 _ rfl
          obtain ⟨c1, _⟩ := q2'.2 1 _ rfl
          obtain ⟨c2, _⟩ := q2'.2 2 _ rfl
          have hkey := kl_key f.name (by have := hfo.1.2; unfold maxLen; omega)
          have hownr := hown.kept (row := none) ⟨hbw.os, hbw.tape, hbw.output, hbw.size, fun k hk _ => hbw.block k hk⟩ (by simp)
          have HST : Hid (fcs (fs.take (k + 1)) = fcs (fs.take k) ++ [.string f.name, .string f.text, .int .i64 f.kept]) := hstep
          have k0 : (0 : Int) ≤ (k : Int) := by omega
          have k1 : (k : Int) < (fs.length : Int) := by omega
          have HB5 : Hid (Below w3.heap.size w3 wr) := hb5
          generalize G f.name = gf at *
          clear hfe hfo hstep q2 q2' hb5 hbw
          go_wp2_with (first
            | (at_lookup; refine wpList_at _ rfl _ _ 50 rfl 9 72 lawK Try.underlying50 (zeroPtr _) b fs.length D rfl hownr _ _ rfl hkey gf q1 ?_)
            | (at_builtin; refine wpList_append_own _ rfl _ _ 24 rfl w3.heap.size 55 j0 _ 3 40 Try.underlying24 hj hy0 hy1 hy2 rfl (by decide) _ _ _ rfl (hown5.alloc _) ⟨wr.heap.size, 0, none⟩ 1 1 [.string f.name, .string f.text, .int .i64 f.kept] rfl rfl (World.news_of_block (cs := #[.string f.name, .string f.text, .int .i64 f.kept]) (t := 55) (fr := (0, 0)) (heap_alloc_new wr _)) (by simp [Value.oneCell']) (by unfold maxLen; omega) (by omega) (by have := HB5.out.size; simp; omega) ?_; intro v' w6 hown' hg6 hnil6))
          go_roundw
          case rel =>
            refine ⟨k + 1, by go_num, by omega, ?_, (HB5.out.alloc HB5.out.size _).grown hg6 (by have := HB5.out.size; simp; omega) (fun j hj => (hown5.lt j hj).1)⟩
            rw [HST.out]
            exact hown'
          case measure => simp [intOf]; omega
        · have e : k = fs.length := by omega
          subst e
          rw [List.take_length] at hown5
          obtain ⟨va, vcap, rfl⟩ := own_formD hown5
          have HR5 : Hid (FRow wr va fs) := (FRw.of_own hown5).1.crow
          have HB5 : Hid (Below w.heap.size w wr) := hbw
          have hyr := hy3.out.grow hb5
          have HYR : Shut (WCells wr w.heap.size [.slice none 0 0]) := ⟨hyr⟩
          have HFO : Hid (∀ f ∈ fs, f.name.size ≤ 281474976710656 ∧ f.text.size ≤ 281474976710656) := by
            intro f hf
            have := HOK.out.ok f hf
            exact ⟨by have := this.1.2; omega, by have := this.2.1; omega⟩
          clear hb5 hbw hyr
          go_wp2_with fail
          refine (copyOf_any va fs vcap _ HR5.out (by omega) HFO.out).mono ?_
          rintro e w7 ⟨v7, rfl, hown7, hb7⟩
          obtain ⟨yc, yf⟩ := (HYR.out.grow hb7).2 0 _ rfl
          have HB7 : Hid (Below w.heap.size w w7) := HB5.out.trans (hb7.mono HB5.out.size)
          have hsz7 := HYR.out.1
          obtain ⟨va7, vcap7, rfl⟩ := own_formD hown7
          clear hb7
          go_wp2_with fail
          show bodyPost Try.prog Try.f22 _ Exit.ret _ _
          refine bodyPost_ret (v := .agg #[.slice va7 fs.length vcap7]) (by simp [results, Try.results22, go_sem, yc]) rfl ⟨_, rfl, ?_, HB7.out.setCell (by simp) _⟩
          exact own_wider (own_other hown7 hsz7 _ rfl _ rfl) (by omega)
    · intro x c l yd yp w2 cnt2 hkey hlk hv hat hrg2 hlt hg2 hs2 hen
      obtain ⟨x', ex, rfl, _⟩ := Maps.keyOf_str Try.underlying9 hkey
      obtain rfl : x = x' := encStr_inj ex
      have hrow2 := hrow.kept hg2 (Or.inr (row_ne_iter hrow hrg).symm)
      have hs2' : wr.heap.size ≤ w2.heap.size := by omega
      clear hs2
      have hnx2 : Below w.heap.size w w2 := hnx.grown hg2 hnx.size (fun j hj => by cases hj; omega)
      have hy2' : WCells w2 w.heap.size [.slice none 0 0] := wc_grown hy.out hg2 (fun e => by simp at e; omega)
      have HY3 : Shut (WCells w2 w.heap.size [.slice none 0 0]) := ⟨hy2'⟩
      clear hy2'
      go_wp2_with (first
        | (at_builtin; refine wpList_append_own _ rfl _ _ 66 rfl (w.heap.size + 1) 9 i0 (.string ⟨#[]⟩) 1 16 Try.underlying66 hi hz0 hz1 hz2 rfl (by decide) _ _ _ rfl (hrow2.alloc _) ⟨w2.heap.size, 0, none⟩ 1 1 [encStr x] rfl rfl (cell_one_new _ _ _) (by simp [Value.oneCell', encStr]) (by unfold maxLen at *; omega) (by omega) (by simp; omega) ?_; intro v' w3 hown' hg3 hnil3))
      have hrg3 := (hrg2.alloc _).kept hg3 (row_ne_low hrow2 (by omega)) (row_ne_iter hrow2 hrg2)
      go_roundw
      case rel =>
        refine ⟨_, cnt2, ss ++ [x], hrg3, by simp; omega, by simpa using hown', fun hv' => by have := (hnil3.1 hv').2; omega, hC.step hlk hat, ⟨wc_grown (HY3.out.alloc _) hg3 (fun e => by have := (hrow2.lt _ e).1; omega)⟩, ?_, ?_⟩
        · exact (hnx2.alloc hnx2.size _).grown hg3 (by have := hnx2.size; simp; omega) (fun j hj => by have := (hrow2.lt j hj).1; omega)
        · have := hg3.size; simp at this; omega
      case measure => rw [hrg3.left_eq, hrg.left_eq]; exact hlt
end Go.Proofs.Ytplcdcfhfaghiaa
/- DiskR: The model's walk of a disk that loses power. -/
namespace Go.Proofs.Ytplcdcfhfaghiaa
set_option maxRecDepth 100000
open Go.RowKit
attribute [local go_sem ↓] Go.wp_at_zero Go.wp_at_succ

def icells (x : Int) : List Value := [.int .i64 x]
/-- A row of numbers. -/
abbrev IRowD (w : World) (a : Option Addr) (xs : List Int) : Prop := CRow w a (xs.map fun x => .int .i64 x)
theorem IRowD.at {w : World} {a : Option Addr} {xs : List Int} (h : IRowD w a xs) (hp : 0 < xs.length) : ∃ b off, a = some ⟨b, off, none⟩ ∧ b < w.heap.size ∧ ∀ j, j < xs.length → w.cell? ⟨b, off + j, none⟩ = some (.int .i64 (xs.getD j 0)) := by
  obtain ⟨b, off, e, hb, hc⟩ := h (by simpa using hp)
  exact ⟨b, off, e, hb, fun j hj => hc j _ (by simp [List.getD, hj])⟩
/-- How many bytes are left of a file: as told, at most all, at least what is kept. -/
def mostOf (f : FM) (l : Option Int) : Int := if (f.text.size : Int) < l.getD 0 then (f.text.size : Int) else l.getD 0
def leftOf (f : FM) (l : Option Int) : Int := if mostOf f l < f.kept then f.kept else mostOf f l
theorem leftOf_in (f : FM) (l : Option Int) (h0 : 0 ≤ f.kept) (h1 : f.kept ≤ f.text.size) : 0 ≤ leftOf f l ∧ leftOf f l ≤ f.text.size := by
  unfold leftOf mostOf; split <;> split <;> omega
def lostF (f : FM) (l : Option Int) : FM := ⟨f.name, f.text.extract 0 (leftOf f l).toNat, leftOf f l⟩
def lostTo (fs : List FM) (left : List Int) (k : Nat) : List FM := (List.range k).map fun j => lostF (fs.getD j default) left[j]?
theorem lostTo_len (fs : List FM) (left : List Int) (k : Nat) : (lostTo fs left k).length = k := by simp [lostTo]
theorem lostTo_step (fs : List FM) (left : List Int) (k : Nat) : lostTo fs left (k + 1) = lostTo fs left k ++ [lostF (fs.getD k default) left[k]?] := by simp [lostTo, List.range_succ]
/-- What LoseDisk answers. -/
def LosePost (fs : List FM) (left : List Int) (w : World) (e : Ending) (w' : World) : Prop :=
  ∃ v, e = .returned (.tuple #[.agg #[v], .bool (dOkB fs)]) ∧ w'.ownsRow w.heap.size 55 3 v (if dOkB fs then (lostTo fs left fs.length).length else 0) (if dOkB fs then fcs (lostTo fs left fs.length) else []) ∧ Below w.heap.size w w'
set_option maxHeartbeats 4000000 in
set_option maxRecDepth 100000 in
theorem specLoseDisk (a c : Option Addr) (fs : List FM) (left : List Int) (cap capl : Nat) (w : World) (hr : FRow w a fs) (hf : FFit fs) (hl : fs.length ≤ 1048576) (hi0 : IRowD w c left) (hll : left.length ≤ 1048576) :
    Calls Try.prog 27 #[.agg #[.slice a fs.length cap], .slice c left.length capl] w fun e w' => LosePost fs left w e w' := by
  obtain ⟨i0, hi, hz0, hz1, hz2⟩ := info_parts infoFile
  have hb0 : Below w.heap.size w ((w.alloc (.cells #[.slice a fs.length cap] 26)).alloc (.cells #[.slice none 0 0] 26)) := ((Below.refl _ _).alloc (Nat.le_refl _) _).alloc (by simp) _
  have HR : Hid (FRow w a fs) := hr
  have HR0 : Hid (FRow ((w.alloc (.cells #[.slice a fs.length cap] 26)).alloc (.cells #[.slice none 0 0] 26)) a fs) := hr.stays hb0
  have HF : Hid (FFit fs) := hf
  have HL : Hid (IRowD w c left) := hi0
  have hx0 := (wcells_new w #[.slice a fs.length cap] 26).alloc (.cells #[.slice none 0 0] 26)
  have hy0 := wcells_new (w.alloc (.cells #[.slice a fs.length cap] 26)) #[.slice none 0 0] 26
  simp only [World.size_alloc] at hx0 hy0
  have HX0 : Shut (WCells ((w.alloc (.cells #[.slice a fs.length cap] 26)).alloc (.cells #[.slice none 0 0] 26)) w.heap.size [.slice a fs.length cap]) := ⟨hx0⟩
  have HY0 : Shut (WCells ((w.alloc (.cells #[.slice a fs.length cap] 26)).alloc (.cells #[.slice none 0 0] 26)) (w.heap.size + 1) [.slice none 0 0]) := ⟨hy0⟩
  have HB0 : Hid (Below w.heap.size w ((w.alloc (.cells #[.slice a fs.length cap] 26)).alloc (.cells #[.slice none 0 0] 26))) := hb0
  generalize hD : dOkB fs = D
  have HD : Hid (dOkB fs = D) := hD
  clear hr hf hi0 hx0 hy0 hb0 hD
  go_enter Try.func27, Try.ntmps27
  go_wp2_with fail
  refine (specDiskOk a fs cap _ HR0.out HF.out hl).mono ?_
  rw [HD.out]
  rintro e w1 ⟨rfl, hb1⟩
  have HX1 : Shut (WCells w1 w.heap.size [.slice a fs.length cap]) := ⟨HX0.out.grow hb1⟩
  have HY1 : Shut (WCells w1 (w.heap.size + 1) [.slice none 0 0]) := ⟨HY0.out.grow hb1⟩
  have HB1 : Hid (Below w.heap.size w w1) := HB0.out.trans (hb1.mono HB0.out.size)
  have y1 := HY1.out.2 0 _ rfl
  obtain ⟨yc1, yf1⟩ := y1
  clear hb1 HX0 HY0 HB0
  cases D with
  | false =>
    go_wp2_with fail
    refine bodyPost_ret (v := .tuple #[.agg #[.slice none 0 0], .bool false]) (by simp [results, Try.results27, go_sem, yc1]) rfl ⟨.slice none 0 0, by rw [HD.out], by rw [HD.out]; exact own_nil _ _ _, HB1.out.setCell (by simp) _⟩
  | true =>
    have HOK : Hid (DOk fs) := by
      by_cases h : DOk fs
      · exact h
      · have := HD.out; rw [dOkB_no h] at this; cases this
    have hx2 := HX1.out.alloc (.cells #[.slice none 0 0] 26)
    have hy2 := HY1.out.alloc (.cells #[.slice none 0 0] 26)
    have HX2 : Shut (WCells (w1.alloc (.cells #[.slice none 0 0] 26)) w.heap.size [.slice a fs.length cap]) := ⟨hx2⟩
    have HY2 : Shut (WCells (w1.alloc (.cells #[.slice none 0 0] 26)) (w.heap.size + 1) [.slice none 0 0]) := ⟨hy2⟩
    have HV2 : Shut (WCells (w1.alloc (.cells #[.slice none 0 0] 26)) w1.heap.size [.slice none 0 0]) := ⟨wcells_new w1 #[.slice none 0 0] 26⟩
    have HB2 : Hid (Below w.heap.size w (w1.alloc (.cells #[.slice none 0 0] 26))) := HB1.out.alloc HB1.out.size _
    have hw1s : w.heap.size + 2 ≤ w1.heap.size := by have := HY1.out.1; omega
    clear hx2 hy2 HX1 HY1 yc1 yf1
    go_wp2_with fail
    go_loopw [7] (fun i wr => ∃ (k : Nat) (v : Value), i = .int .i64 k ∧ k ≤ fs.length ∧ Shut (WCells wr w.heap.size [.slice a fs.length cap]) ∧ Shut (WCells wr (w.heap.size + 1) [.slice none 0 0]) ∧ Shut (WCells wr w1.heap.size [v]) ∧
        wr.ownsRow (w1.heap.size + 1) 55 3 v (lostTo fs left k).length (fcs (lostTo fs left k)) ∧ Below w.heap.size w wr) (fun i _ => fs.length - (intOf i).toNat)
    case atStart => exact ⟨0, .slice none 0 0, rfl, Nat.zero_le _, HX2, HY2, HV2, by simp [lostTo, fcs]; exact own_nil _ _ _, HB2.out⟩
    case round =>
      obtain ⟨k, v, rfl, hk, hx, hy, hv, hown, hb⟩ := hrel
      have x0 := (hx.out.2 0 _ rfl).1
      obtain ⟨vc, vf⟩ := hv.out.2 0 _ rfl
      obtain ⟨yc, yf⟩ := hy.out.2 0 _ rfl
      have HB : Hid (Below w.heap.size w wr) := hb
      have hv1 : w1.heap.size < wr.heap.size := hv.out.1
      by_cases hlt : k < fs.length
      · obtain ⟨b, off, rfl, lb0, hc0⟩ := FRow.at HR.out (by omega)
        obtain ⟨d0, d1, d2⟩ := hc0 k hlt
        rw [← hb.cell (p := ⟨b, off + k * 3, none⟩) lb0] at d0
        rw [← hb.cell (p := ⟨b, off + k * 3 + 1, none⟩) lb0] at d1
        rw [← hb.cell (p := ⟨b, off + k * 3 + 2, none⟩) lb0] at d2
        have hgood := (HOK.out.2 k hlt).1
        rw [getD_atF fs k hlt] at hgood
        have hstep := lostTo_step fs left k
        rw [getD_atF fs k hlt] at hstep
        obtain ⟨f, hfe⟩ : ∃ f, f = fs[k] := ⟨_, rfl⟩
        rw [← hfe] at d0 d1 d2 hgood hstep
        obtain ⟨_, _, g0, g1⟩ := hgood
        have HST : Hid (lostTo fs left (k + 1) = lostTo fs left k ++ [lostF f left[k]?]) := hstep
        have hlen := lostTo_len fs left k
        have hlen2 : (lostTo fs left k).length ≤ 1048576 := by omega
        have k0 : (0 : Int) ≤ (k : Int) := by omega
        have k1 : (k : Int) < (fs.length : Int) := by omega
        have lb1 : b < wr.heap.size := by omega
        have hob : ∀ q, q < w1.heap.size + 1 → v.ownBlock ≠ some q := fun q hq e => by have := (hown.lt q e).1; omega
        have nv : v.ownBlock ≠ some w1.heap.size := hob _ (by omega)
        clear hfe hc0 hob hstep hlen
        obtain ⟨l, hle⟩ : ∃ l, l = left[k]? := ⟨_, rfl⟩
        rw [← hle] at HST
        have HLE : Hid (l = left[k]?) := hle
        clear hle
        go_upto_if 30 with fail
        go_cut [9] from 15 to 61 (fun nn wx => nn = .int .i64 (l.getD 0) ∧ wx = wr.alloc (.cells #[.string f.name, .string f.text, .int .i64 f.kept] 55))
        case first =>
          by_cases hil : k < left.length
          · obtain ⟨b2, off2, rfl, lb2, hc2⟩ := IRowD.at HL.out (by omega)
            have e0 := hc2 k hil
            rw [← hb.cell (p := ⟨b2, off2 + k, none⟩) lb2] at e0
            have hlg : l.getD 0 = left.getD k 0 := by rw [HLE.out]; simp [List.getD]
            have HLG : Hid (l.getD 0 = left.getD k 0) := hlg
            have hil' : (k : Int) < (left.length : Int) := by omega
            have lb3 : b2 < wr.heap.size := by omega
            generalize left.getD k 0 = x at *
            clear hc2 hlg hb
            go_wp2_with fail
            go_meet
            case rel => exact ⟨by rw [HLG.out], rfl⟩
          · have hil' : ¬ (k : Int) < (left.length : Int) := by omega
            have hlg : l.getD 0 = 0 := by rw [HLE.out, List.getElem?_eq_none (by omega)]; rfl
            have HLG : Hid (l.getD 0 = 0) := hlg
            clear hlg hb
            go_wp2_with fail
            go_meet
            case rel => exact ⟨by rw [HLG.out], rfl⟩
        case rest =>
          obtain ⟨rfl, rfl⟩ := hcut
          clear hb
          obtain ⟨n1, hn1⟩ : ∃ n1, n1 = mostOf f l := ⟨_, rfl⟩
          have HN1 : Hid (n1 = mostOf f l) := hn1
          have hm : n1 = if (f.text.size : Int) < l.getD 0 then (f.text.size : Int) else l.getD 0 := hn1
          generalize l.getD 0 = n0 at hm ⊢
          clear hn1
          go_upto_if 39 with fail
          go_cut [9] from 15 to 61 (fun nn wx => nn = .int .i64 n1 ∧ wx = wr.alloc (.cells #[.string f.name, .string f.text, .int .i64 f.kept] 55))
          case first =>
            by_cases hbig : (f.text.size : Int) < n0
            · rw [if_pos hbig] at hm
              have HM : Hid (n1 = (f.text.size : Int)) := hm
              clear hm
              go_wp2_with fail
              go_meet
              case rel => exact ⟨by rw [HM.out], rfl⟩
            · rw [if_neg hbig] at hm
              have HM : Hid (n1 = n0) := hm
              clear hm
              go_wp2_with fail
              go_meet
              case rel => exact ⟨by rw [HM.out], rfl⟩
          case rest =>
            obtain ⟨rfl, rfl⟩ := hcut
            clear hm
            obtain ⟨n2, hn2⟩ : ∃ n2, n2 = leftOf f l := ⟨_, rfl⟩
            have HN2 : Hid (n2 = leftOf f l) := hn2
            have hm : n2 = if n1 < f.kept then f.kept else n1 := by rw [hn2]; unfold leftOf; rw [← HN1.out]
            obtain ⟨b0, b1⟩ := leftOf_in f l g0 g1
            rw [← hn2] at b0 b1
            clear hn2 HN1
            go_upto_if 46 with fail
            go_cut [9] from 15 to 61 (fun nn wx => nn = .int .i64 n2 ∧ wx = wr.alloc (.cells #[.string f.name, .string f.text, .int .i64 f.kept] 55))
            case first =>
              by_cases hsm : n1 < f.kept
              · rw [if_pos hsm] at hm
                have HM : Hid (n2 = f.kept) := hm
                clear hm
                go_wp2_with fail
                go_meet
                case rel => exact ⟨by rw [HM.out], rfl⟩
              · rw [if_neg hsm] at hm
                have HM : Hid (n2 = n1) := hm
                clear hm
                go_wp2_with fail
                go_meet
                case rel => exact ⟨by rw [HM.out], rfl⟩
            case rest =>
              obtain ⟨rfl, rfl⟩ := hcut
              have HZ : Hid (lostF f l = ⟨f.name, f.text.extract 0 n2.toNat, n2⟩) := by
                have : lostF f l = ⟨f.name, f.text.extract 0 n2.toNat, n2⟩ := by unfold lostF; rw [← HN2.out]
                exact this
              obtain ⟨T, hT⟩ : ∃ T, T = f.text.extract 0 n2.toNat := ⟨_, rfl⟩
              have hsl : ∀ W : World, (Instr.slice 9 (.string f.text) none (some (.int .i64 n2)) none).run Try.prog W = .ok (.string T) W := fun W => by
                rw [run_slice_string_h (ht := Try.underlying9) (kh := .i64) (h0 := b0) (h2 := b1), hT]
              rw [← hT] at HZ
              clear hT hm HN2
              go_wp2_with fail
              go_region_law ((refine step_append_lies _ (by rfl) _ _ _ (by rfl) (w1.heap.size + 1) 55 i0 _ 3 40 Try.underlying24 hi hz0 hz1 hz2 rfl (by omega) _ _ _ (by rfl) (((hown.alloc _).alloc _).drew) ⟨wr.heap.size + 1, 0, none⟩ 1 1 [.string f.name, .string T, .int .i64 n2] (by rfl) (by rfl) (World.news_of_block (cs := #[.string f.name, .string T, .int .i64 n2]) (t := 55) (fr := (0, 0)) (by rw [show wr.heap.size + 1 = (wr.alloc (.cells #[.string f.name, .string f.text, .int .i64 f.kept] 55)).heap.size by simp]; exact heap_alloc_new _ _)) (by simp [Value.oneCell']) (by omega) (by unfold maxLen; omega) (by omega) (by simp; omega) (wr.heap.size + 2) (by simp) ?_; intro gg cap1 w2 hown1 hgrow hat hlt'; have vc1 := (cell_grown hgrow ⟨w1.heap.size, 0, none⟩ (by simp; omega) nv).trans (((hv.out.alloc _).alloc _).2 0 _ rfl).1; have vf1 := (frozen_grown hgrow ⟨w1.heap.size, 0, none⟩ (by simp; omega) nv).trans (((hv.out.alloc _).alloc _).2 0 _ rfl).2))
              all_goals go_wp2_with fail
              all_goals
                obtain ⟨u1, u2, u3, u4⟩ := var_grow (hv.out.alloc _) (show w1.heap.size < w1.heap.size + 1 by omega) (hown.alloc _) hgrow hown1
                refine ⟨⟨k + 1, _, by go_num, by omega, ⟨u1 _ _ (by omega) (by omega) (hx.out.alloc _)⟩, ⟨u1 _ _ (by omega) (by omega) (hy.out.alloc _)⟩, ⟨u2⟩, ?_, u4 _ _ (by omega) (HB.out.alloc HB.out.size _)⟩, by simp [intOf]; omega⟩
                rw [HST.out, HZ.out, fcs_snoc, List.length_append]
                exact u3
      · have e : k = fs.length := by omega
        subst e
        clear hb
        obtain ⟨va, vcap, rfl⟩ := own_formD hown
        go_wp2_with fail
        show bodyPost Try.prog Try.f27 _ Exit.ret _ _
        refine bodyPost_ret (v := .tuple #[.agg #[.slice va (lostTo fs left fs.length).length vcap], .bool true]) (by simp [results, Try.results27, go_sem, yc]) rfl ⟨_, by rw [HD.out], ?_, HB.out.setCell (by simp) _⟩
        rw [HD.out]
        exact own_wider (own_other hown (show w.heap.size + 1 < w1.heap.size + 1 by omega) _ rfl _ rfl) (by omega)
end Go.Proofs.Ytplcdcfhfaghiaa
/- ImC: What is left of a file when the power goes, and of a disk: the program's own walks. -/
namespace Go.Proofs.Ytplcdcfhfaghiaa
set_option maxRecDepth 100000
open Go.RowKit
attribute [local go_sem ↓] Go.wp_at_zero Go.wp_at_succ

set_option maxHeartbeats 1000000 in
theorem left_any (f : FM) (n : Int) (w : World) (h0 : 0 ≤ f.kept) (h1 : f.kept ≤ (f.text.size : Int)) :
    Calls Try.prog 49 #[fv f, .int .i64 n] w fun e w' => e = .returned (fv (lostF f (some n))) ∧ Below w.heap.size w w' := by
  obtain ⟨m, hm⟩ : ∃ m, m = leftOf f (some n) := ⟨_, rfl⟩
  have HE : Hid (lostF f (some n) = ⟨f.name, f.text.extract 0 m.toNat, m⟩) := by rw [hm]; exact (rfl : lostF f (some n) = ⟨f.name, f.text.extract 0 (leftOf f (some n)).toNat, leftOf f (some n)⟩)
  obtain ⟨b0, b1⟩ := leftOf_in f (some n) h0 h1
  rw [← hm] at b0 b1
  have hmx : max (min n (f.text.size : Int)) f.kept = m := by
    rw [hm]; unfold leftOf mostOf
    show max (min n (f.text.size : Int)) f.kept = if (if (f.text.size : Int) < n then (f.text.size : Int) else n) < f.kept then f.kept else (if (f.text.size : Int) < n then (f.text.size : Int) else n)
    omega
  have hsl : ∀ W : World, (Instr.slice 9 (.string f.text) none (some (.int .i64 m)) none).run Try.prog W = .ok (.string (f.text.extract 0 m.toNat)) W := fun W => by
    rw [run_slice_string_h (ht := Try.underlying9) (kh := .i64) (h0 := b0) (h2 := b1)]
  generalize lostF f (some n) = L at HE ⊢
  generalize f.text.extract 0 m.toNat = T at HE hsl
  have hL := HE.out
  subst hL
  clear hm HE b0 b1 h0 h1
  go_enter Try.func49, Try.ntmps49
  go_wp2_with fail
  go_region
  go_wp2_with fail
  refine bodyPost_ret (v := .agg #[.string f.name, .string T, .int .i64 m]) (by simp [results, Try.results49, go_sem]) rfl ⟨rfl, ?_⟩
  exact (((Below.refl _ _).alloc (Nat.le_refl _) _).alloc (by simp) _).drew
theorem lost_fit {fs : List FM} (left : List Int) (h : DOk fs) (k : Nat) (hk : k ≤ fs.length) : ∀ f ∈ lostTo fs left k, f.name.size ≤ 281474976710656 ∧ f.text.size ≤ 281474976710656 := by
  intro f hf
  obtain ⟨j, hj, rfl⟩ := List.mem_map.1 hf
  have hj' : j < k := by simpa using hj
  have h1 := (h.2 j (by omega)).1
  unfold lostF
  refine ⟨by have := h1.1.2; show (fs.getD j default).name.size ≤ _; omega, ?_⟩
  show ((fs.getD j default).text.extract 0 _).size ≤ _
  have h2 := h1.2.1
  have h3 : ((fs.getD j default).text.extract 0 (leftOf (fs.getD j default) left[j]?).toNat).size ≤ (fs.getD j default).text.size := by
    rw [ByteArray.size_extract]; omega
  omega
theorem own_crow {w : World} {B n c t : Nat} {a : Option Addr} {L : List Value} (h : w.ownsRow B t 3 (.slice a n c) n L) : CRow w a L := by
  intro hp
  have h' := h
  rcases h.2 with ⟨h0, _⟩ | ⟨g, cap, cur, he, hB, hcur, _, _, _, _⟩
  · have hl := h.1
    have e : n = 0 := by simp at h0; exact h0.2.1
    rw [e] at hl
    omega
  · have ea : a = some ⟨g, 0, none⟩ := by simp at he; exact he.1
    subst ea
    exact (own_wcells h').crow hp
set_option maxHeartbeats 4000000 in
set_option maxRecDepth 100000 in
theorem implLoseDisk (a c : Option Addr) (fs : List FM) (left : List Int) (cap capl : Nat) (w : World) (hr : FRow w a fs) (hf : FFit fs) (hl : fs.length ≤ 1048576) (hi0 : IRowD w c left) (hll : left.length ≤ 1048576) :
    Calls Try.prog 25 #[.agg #[.slice a fs.length cap], .slice c left.length capl] w fun e w' => LosePost fs left w e w' := by
  obtain ⟨i0, hi, hz0, hz1, hz2⟩ := info_parts infoFile
  have hb0 : Below w.heap.size w ((w.alloc (.cells #[.slice a fs.length cap] 26)).alloc (.cells #[.slice none 0 0] 26)) := ((Below.refl _ _).alloc (Nat.le_refl _) _).alloc (by simp) _
  have HR : Hid (FRow w a fs) := hr
  have HR0 : Hid (FRow ((w.alloc (.cells #[.slice a fs.length cap] 26)).alloc (.cells #[.slice none 0 0] 26)) a fs) := hr.stays hb0
  have HF : Hid (FFit fs) := hf
  have HL : Hid (IRowD w c left) := hi0
  have hx0 := (wcells_new w #[.slice a fs.length cap] 26).alloc (.cells #[.slice none 0 0] 26)
  have hy0 := wcells_new (w.alloc (.cells #[.slice a fs.length cap] 26)) #[.slice none 0 0] 26
  simp only [World.size_alloc] at hx0 hy0
  have HX0 : Shut (WCells ((w.alloc (.cells #[.slice a fs.length cap] 26)).alloc (.cells #[.slice none 0 0] 26)) w.heap.size [.slice a fs.length cap]) := ⟨hx0⟩
  have HY0 : Shut (WCells ((w.alloc (.cells #[.slice a fs.length cap] 26)).alloc (.cells #[.slice none 0 0] 26)) (w.heap.size + 1) [.slice none 0 0]) := ⟨hy0⟩
  have HB0 : Hid (Below w.heap.size w ((w.alloc (.cells #[.slice a fs.length cap] 26)).alloc (.cells #[.slice none 0 0] 26))) := hb0
  generalize hD : dOkB fs = D
  have HD : Hid (dOkB fs = D) := hD
  clear hr hf hi0 hx0 hy0 hb0 hD
  go_enter Try.func25, Try.ntmps25
  go_wp2_with fail
  refine (implDiskOk a fs cap _ HR0.out HF.out hl).mono ?_
  rw [HD.out]
  rintro e w1 ⟨rfl, hb1⟩
  have HX1 : Shut (WCells w1 w.heap.size [.slice a fs.length cap]) := ⟨HX0.out.grow hb1⟩
  have HY1 : Shut (WCells w1 (w.heap.size + 1) [.slice none 0 0]) := ⟨HY0.out.grow hb1⟩
  have HB1 : Hid (Below w.heap.size w w1) := HB0.out.trans (hb1.mono HB0.out.size)
  have y1 := HY1.out.2 0 _ rfl
  obtain ⟨yc1, yf1⟩ := y1
  clear hb1 HX0 HY0 HB0
  cases D with
  | false =>
    go_wp2_with fail
    refine bodyPost_ret (v := .tuple #[.agg #[.slice none 0 0], .bool false]) (by simp [results, Try.results25, go_sem, yc1]) rfl ⟨.slice none 0 0, by rw [HD.out], by rw [HD.out]; exact own_nil _ _ _, HB1.out.setCell (by simp) _⟩
  | true =>
    have HOK : Hid (DOk fs) := by
      by_cases h : DOk fs
      · exact h
      · have := HD.out; rw [dOkB_no h] at this; cases this
    have hw1s : w.heap.size + 2 ≤ w1.heap.size := by have := HY1.out.1; omega
    have x1 := (HX1.out.2 0 _ rfl).1
    go_wp2_with (at_make; refine wpList_make_own _ rfl _ _ 24 rfl w1.heap.size 55 i0 _ 3 Try.underlying24 hi hz0 hz1 .i64 .i64 _ fs.length rfl rfl (by omega) ?b2 ?b3 ?b4 ?_)
    case b2 => rw [hz2]; omega
    case b3 => unfold maxLen; omega
    case b4 => simp
    intro wm hownm hgrm
    have hbm : Below w.heap.size w wm := HB1.out.grown hgrm HB1.out.size (fun j hj => by simp at hj)
    have HXM : Shut (WCells wm w.heap.size [.slice a fs.length cap]) := ⟨wc_grown HX1.out hgrm (by simp)⟩
    have HYM : Shut (WCells wm (w.heap.size + 1) [.slice none 0 0]) := ⟨wc_grown HY1.out hgrm (by simp)⟩
    have HBM : Hid (Below w.heap.size w wm) := hbm
    have HWM : Hid (wm.ownsRow w1.heap.size 55 3 (.slice (some ⟨w1.heap.size, 0, none⟩) 0 fs.length) 0 []) := hownm
    have xm := (HXM.out.2 0 _ rfl).1
    have HSM : Hid (w1.heap.size < wm.heap.size) := (hownm.lt w1.heap.size rfl).2
    clear hgrm hbm hownm yc1 yf1 x1
    go_wp2_with fail
    go_loopw [6, 21] (fun v i wr => ∃ (k : Nat), i = .int .i64 k ∧ k ≤ fs.length ∧ w1.heap.size < wr.heap.size ∧ Shut (WCells wr (w.heap.size + 1) [.slice none 0 0]) ∧ wr.ownsRow w1.heap.size 55 3 v (lostTo fs left k).length (fcs (lostTo fs left k)) ∧ Below w.heap.size w wr) (fun _ i _ => fs.length - (intOf i).toNat)
    case atStart => exact ⟨0, rfl, Nat.zero_le _, HSM.out, HYM, by simpa [lostTo, fcs] using HWM.out, HBM.out⟩
    case round =>
      clear HXM HYM HBM HWM HSM xm HX1 HY1 HB1 HR0
      obtain ⟨k, rfl, hk, hw1, hy, hown, hb⟩ := hrel
      have HB : Hid (Below w.heap.size w wr) := hb
      by_cases hlt : k < fs.length
      · obtain ⟨b, off, rfl, lb0, hc0⟩ := FRow.at HR.out (by omega)
        obtain ⟨d0, d1, d2⟩ := hc0 k hlt
        rw [← hb.cell (p := ⟨b, off + k * 3, none⟩) lb0] at d0
        rw [← hb.cell (p := ⟨b, off + k * 3 + 1, none⟩) lb0] at d1
        rw [← hb.cell (p := ⟨b, off + k * 3 + 2, none⟩) lb0] at d2
        have hgood := (HOK.out.2 k hlt).1
        rw [getD_atF fs k hlt] at hgood
        have hstep := lostTo_step fs left k
        rw [getD_atF fs k hlt] at hstep
        obtain ⟨f, hfe⟩ : ∃ f, f = fs[k] := ⟨_, rfl⟩
        rw [← hfe] at d0 d1 d2 hgood hstep
        obtain ⟨_, _, g0, g1⟩ := hgood
        have HST : Hid (lostTo fs left (k + 1) = lostTo fs left k ++ [lostF f left[k]?]) := hstep
        have hlen := lostTo_len fs left k
        have hlen2 : (lostTo fs left k).length ≤ 1048576 := by omega
        have k0 : (0 : Int) ≤ (k : Int) := by omega
        have k1 : (k : Int) < (fs.length : Int) := by omega
        clear hfe hc0 hstep hlen
        obtain ⟨l, hle⟩ : ∃ l, l = left[k]? := ⟨_, rfl⟩
        rw [← hle] at HST
        have HLE : Hid (l = left[k]?) := hle
        have HLF : Hid (lostF f l = lostF f (some (l.getD 0))) := by
          have : lostF f l = lostF f (some (l.getD 0)) := by cases l <;> rfl
          exact this
        clear hle
        go_upto_if 29 with fail
        go_cut [9] from 22 to 40 (fun nn wx => nn = .int .i64 (l.getD 0) ∧ wx = wr.alloc (.cells #[.string f.name, .string f.text, .int .i64 f.kept] 55))
        case first =>
          by_cases hil : k < left.length
          · obtain ⟨b2, off2, rfl, lb2, hc2⟩ := IRowD.at HL.out (by omega)
            have e0 := hc2 k hil
            rw [← hb.cell (p := ⟨b2, off2 + k, none⟩) lb2] at e0
            have hlg : l.getD 0 = left.getD k 0 := by rw [HLE.out]; simp [List.getD]
            have HLG : Hid (l.getD 0 = left.getD k 0) := hlg
            have hil' : (k : Int) < (left.length : Int) := by omega
            have lb3 : b2 < wr.heap.size := by have := hb.size; omega
            generalize left.getD k 0 = x at *
            clear hc2 hlg hb
            go_wp2_with fail
            go_meet
            case rel => exact ⟨by rw [HLG.out], rfl⟩
          · have hil' : ¬ (k : Int) < (left.length : Int) := by omega
            have hlg : l.getD 0 = 0 := by rw [HLE.out, List.getElem?_eq_none (by omega)]; rfl
            have HLG : Hid (l.getD 0 = 0) := hlg
            clear hlg hb
            go_wp2_with fail
            go_meet
            case rel => exact ⟨by rw [HLG.out], rfl⟩
        case rest =>
          obtain ⟨rfl, rfl⟩ := hcut
          clear hb d0 d1 d2
          generalize hn0 : l.getD 0 = n0 at HLF ⊢
          clear hn0
          go_wp2_with fail
          refine (left_any f n0 _ g0 g1).mono ?_
          rintro e w2 ⟨rfl, hb2⟩
          have hown2 := own_belowD (hown.alloc (.cells #[.string f.name, .string f.text, .int .i64 f.kept] 55)) hb2
          have HY2 : Shut (WCells w2 (w.heap.size + 1) [.slice none 0 0]) := ⟨(hy.out.alloc _).grow hb2⟩
          have HB2 : Hid (Below w.heap.size w w2) := (HB.out.alloc HB.out.size _).trans (hb2.mono (by have := HB.out.size; simp; omega))
          have hs2 : wr.heap.size + 1 ≤ w2.heap.size := by have := hb2.size; simpa using this
          obtain ⟨L, hL⟩ : ∃ L, L = lostF f (some n0) := ⟨_, rfl⟩
          rw [← hL] at HLF ⊢
          clear hb2 hL
          go_wp2_with (at_builtin; refine wpList_append_own _ rfl _ _ 24 rfl w1.heap.size 55 i0 _ 3 40 Try.underlying24 hi hz0 hz1 hz2 rfl (by decide) _ _ _ rfl (hown2.alloc _) ⟨w2.heap.size, 0, none⟩ 1 1 [.string L.name, .string L.text, .int .i64 L.kept] rfl rfl (World.news_of_block (cs := #[.string L.name, .string L.text, .int .i64 L.kept]) (t := 55) (fr := (0, 0)) (heap_alloc_new w2 _)) ?c2 ?c3 ?c4 ?c5 ?_)
          case c2 => simp [Value.oneCell']
          case c3 => unfold maxLen; omega
          case c4 => omega
          case c5 => simp; omega
          intro v3 w3 hown3 hgrow hnil
          have hne : ∀ q, q < w1.heap.size → u6.ownBlock ≠ some q := fun q hq e => by have := (hown.lt q e).1; omega
          have hy3 : WCells w3 (w.heap.size + 1) [.slice none 0 0] := wc_grown (HY2.out.alloc _) hgrow (hne _ (by omega))
          have hb3 : Below w.heap.size w w3 := (HB2.out.alloc HB2.out.size _).grown hgrow (by have := HB2.out.size; simp; omega) (fun j hj => by have := (hown.lt j hj).1; omega)
          have hs3 : w1.heap.size < w3.heap.size := by have := hgrow.size; simp at this; omega
          have HN : Hid (w3.ownsRow w1.heap.size 55 3 v3 (lostTo fs left (k + 1)).length (fcs (lostTo fs left (k + 1)))) := by
            have : w3.ownsRow w1.heap.size 55 3 v3 (lostTo fs left (k + 1)).length (fcs (lostTo fs left (k + 1))) := by
              rw [HST.out, HLF.out, fcs_snoc, List.length_append]
              exact hown3
            exact this
          have HY3 : Shut (WCells w3 (w.heap.size + 1) [.slice none 0 0]) := ⟨hy3⟩
          have HB3 : Hid (Below w.heap.size w w3) := hb3
          clear hy3 hb3 hown3 hgrow hne
          go_wp2_with fail
          go_roundw
          case rel => exact ⟨k + 1, by go_num, by omega, hs3, HY3, HN.out, HB3.out⟩
          case measure => simp [intOf]; omega
      · have e : k = fs.length := by omega
        subst e
        clear hb
        obtain ⟨va, vcap, rfl⟩ := own_formD hown
        have HR2 : Hid (FRow wr va (lostTo fs left fs.length)) := own_crow hown
        go_wp2_with fail
        refine (copyOf_any va (lostTo fs left fs.length) vcap _ HR2.out (by rw [lostTo_len]; exact hl) (lost_fit left HOK.out _ (Nat.le_refl _))).mono ?_
        rintro e w2 ⟨v2, rfl, hown2, hb2⟩
        obtain ⟨yc, yf⟩ := (hy.out.grow hb2).2 0 _ rfl
        have HB2 : Hid (Below w.heap.size w w2) := HB.out.trans (hb2.mono HB.out.size)
        have hsz := hy.out.1
        obtain ⟨va2, vcap2, rfl⟩ := own_formD hown2
        clear hb2
        go_wp2_with fail
        show bodyPost Try.prog Try.f25 _ Exit.ret _ _
        refine bodyPost_ret (v := .tuple #[.agg #[.slice va2 (lostTo fs left fs.length).length vcap2], .bool true]) (by simp [results, Try.results25, go_sem, yc]) rfl ⟨_, by rw [HD.out], ?_, HB2.out.setCell (by simp) _⟩
        rw [HD.out]
        exact own_wider (own_other hown2 hsz _ rfl _ rfl) (by omega)
end Go.Proofs.Ytplcdcfhfaghiaa
