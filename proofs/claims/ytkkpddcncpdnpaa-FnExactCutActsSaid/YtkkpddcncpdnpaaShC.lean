/- The shelf's operations: a file is moved; an act; the shelf of a disk. -/
import Derived.Test.YtkkpddcncpdnpaaShB
namespace Go.Proofs.Ytkkpddcncpdnpaa
open Go.RowKit Go.Maps
attribute [local go_sem ↓] Go.wp_at_zero Go.wp_at_succ

theorem own_below' {w w' : World} {b n : Nat} {D : DataW Unit} (h : w.ownsMap Try.prog 9 ptrElem b n D) (hb : Below w.heap.size w w') : w'.ownsMap Try.prog 9 ptrElem b n D :=
  h.kept (row := none) ⟨hb.os, hb.tape, hb.output, hb.size, fun k hk _ => hb.block k hk⟩ (by simp)
set_option maxHeartbeats 2000000 in
set_option maxRecDepth 100000 in
theorem move_any (b B : Nat) (fs : List FM) (n t : ByteArray) (w : World) (hsh : Shelf w B b fs) (hok : DOk fs) (hn : n.size ≤ 9223372036854775807) (ht : t.size ≤ 9223372036854775807) (hBw : B ≤ w.heap.size) :
    Calls Try.prog 64 #[.map (some b), .string n, .string t] w fun e w' => ShPost (doA fs ⟨3, n, ⟨#[]⟩, t⟩) fs B b w e w' := by
  have hkey := kl_key n hn
  have hkt := kl_key t ht
  have hik := isKey_kl t ht
  have HSH : Hid (Shelf w B b fs) := hsh
  have h30 := hok.1
  rw [doA_move hok]
  obtain ⟨hB, D, G, hown, hsz, hin, hinj, hno⟩ := hsh
  have hbl := hown.lt
  cases hf : fileOf fs n with
  | none =>
    have hab := hno n (fileOf_none hf)
    clear hin hinj hno hok hkt
    go_enter Try.func64, Try.ntmps64
    go_wp2_with (at_lookup; refine wpList_absent _ rfl _ _ 76 rfl 9 88 lawK Try.underlying76 (zeroPtr _) b fs.length D rfl hown _ _ rfl hkey hab ?_)
    go_ret
    exact ⟨rfl, HSH.out, Below.refl _ _⟩
  | some f =>
    obtain ⟨hm, rfl⟩ := fileOf_some hf
    obtain ⟨q1, q2, q3, q4⟩ := hin f hm
    have htidy := hown.tidy lawK
    have hhas := Maps.has_true_of_atKey q1
    have HU : Hid (∀ w1 w2 w3 : World, Below w.heap.size w w1 → w1.mapTurned w2 b → w3.ownsMap Try.prog 9 ptrElem b (fs.length + 1) ((D.del (kl f.name)).put (kl t) (.lit (.int .i64 (G f.name)))) → (w2.setCell ⟨G f.name, 0, none⟩ (.string t)).mapTurned w3 b → ShPost (some (putF ⟨t, f.text, f.kept⟩ (withoutF f.name fs))) fs B b w (.returned (.bool true)) w3) := by
      intro w1 w2 w3 hb1 ht2 ho ht3
      have c2 : ∀ g X, g ≠ b → WCells w g X → WCells w2 g X := fun g X hg hc => wc_grown (hc.grow hb1) ht2.grown (fun e => hg (by simpa using e.symm))
      have c3 : ∀ g X, g ≠ b → WCells (w2.setCell ⟨G f.name, 0, none⟩ (.string t)) g X → WCells w3 g X := fun g X hg hc => wc_grown hc ht3.grown (fun e => hg (by simpa using e.symm))
      have hnew : WCells (w2.setCell ⟨G f.name, 0, none⟩ (.string t)) (G f.name) (fcells ⟨t, f.text, f.kept⟩) := (c2 _ _ q4 q2).set 0 (.string t) (by rw [fcells_len]; decide)
      have hs2 : w.heap.size ≤ w2.heap.size := Nat.le_trans hb1.size ht2.grown.size
      have htd := htidy.del (kl f.name)
      have hsd : Maps.size (D.del (kl f.name)) = (withoutF f.name fs).length := by
        have h1 := Maps.size_del (k := kl f.name) htidy
        rw [hhas] at h1
        have h2 := without_some hok.up hm
        simp at h1
        omega
      refine ⟨rfl, Shelf.put (D := D.del (kl f.name)) (G := G) (g := G f.name) hB ho ?_ (fun f2 h2 => ?_) (fun f1 h1 f2 h2 e => hinj f1 (mem_withoutF.1 h1).1 f2 (mem_withoutF.1 h2).1 e) (fun n hn => ?_) (fun l hl => ⟨fun z => Maps.atKey_put_other hl _ z, Maps.has_put_other hl _⟩) (fun z => Maps.atKey_put_same (hown.isMap.del _) hik _ z) (c3 _ _ q4 hnew) (fun f2 h2 hne => ?_) (fun f2 h2 hne e => (mem_withoutF.1 h2).2 (hinj f2 (mem_withoutF.1 h2).1 f hm e)) q3 q4, below_turned ((below_turned (hb1.mono hBw) ht2 hB (by have := hb1.size; omega)).setCell q3 _) ht3 hB (by simp [World.setCell]; omega)⟩
      · rw [Maps.size_put htd, put_len (hok.up.without _), hsd]
        show _ = (withoutF t (withoutF f.name fs)).length + 1
        cases hq : Maps.has (D.del (kl f.name)) (kl t) with
        | false =>
          have : ∀ f' ∈ withoutF f.name fs, f'.name ≠ t := fun f' hf' e => by
            obtain ⟨m1, m2⟩ := mem_withoutF.1 hf'
            rw [Maps.has_del_other (fun e' => m2 (by rw [e]; exact kl_inj e')), ← e, Maps.has_true_of_atKey (hin f' m1).1] at hq
            cases hq
          rw [without_none this]; rfl
        | true =>
          have hne : t ≠ f.name := fun e => by rw [e, Maps.has_del_same] at hq; cases hq
          have : ∃ f' ∈ withoutF f.name fs, f'.name = t := Classical.byContradiction fun hc => by
            have h1 := hno t fun f' hf' e => hc ⟨f', mem_withoutF.2 ⟨hf', fun e' => hne (e.symm.trans e')⟩, e⟩
            rw [Maps.has_del_other (fun e' => hne (kl_inj e')), h1] at hq
            cases hq
          obtain ⟨f', hf', rfl⟩ := this
          rw [without_some (hok.up.without _) hf']; rfl
      · obtain ⟨m1, m2⟩ := mem_withoutF.1 h2
        exact ⟨fun z => by rw [Maps.atKey_del_other (fun e => m2 (kl_inj e))]; exact (hin f2 m1).1 z, (hin f2 m1).2.2⟩
      · by_cases e : n = f.name
        · subst e; exact Maps.has_del_same
        · rw [Maps.has_del_other (fun e' => e (kl_inj e'))]
          exact hno n fun f' hf' e' => hn f' (mem_withoutF.2 ⟨hf', fun e2 => e (e'.symm.trans e2)⟩) e'
      · obtain ⟨m1, m2⟩ := mem_withoutF.1 h2
        exact c3 _ _ (hin f2 m1).2.2.2 ((c2 _ _ (hin f2 m1).2.2.2 (hin f2 m1).2.1).other _ _ (fun e => m2 (hinj f2 m1 f hm e)))
    have hgl := q2.1
    generalize G f.name = g at *
    clear hin hinj hno htidy hf hok hsz hhas
    have hmx : fs.length < maxLen := by unfold maxLen; omega
    obtain ⟨c0, _⟩ := q2.2 0 _ rfl
    obtain ⟨c1, _⟩ := q2.2 1 _ rfl
    obtain ⟨c2, _⟩ := q2.2 2 _ rfl
    simp only [Option.bind_some]
    generalize hR : (if f.kept = (f.text.size : Int) ∧ t ≠ f.name ∧ (1 ≤ t.size ∧ t.size ≤ 8) then some (putF ⟨t, f.text, f.kept⟩ (withoutF f.name fs)) else none) = R
    have HR : Hid ((if f.kept = (f.text.size : Int) ∧ t ≠ f.name ∧ (1 ≤ t.size ∧ t.size ≤ 8) then some (putF ⟨t, f.text, f.kept⟩ (withoutF f.name fs)) else none) = R) := hR
    clear hR
    go_enter Try.func64, Try.ntmps64
    go_wp2_with (at_lookup; refine wpList_there _ rfl _ _ 76 rfl 9 88 lawK Try.underlying76 (zeroPtr _) b fs.length D rfl hown _ _ rfl hkey g q1 ?_)
    refine (allKept_any f _).mono ?_
    generalize hD : decide (f.kept = (f.text.size : Int)) = K
    rintro e w1 ⟨rfl, hb1⟩
    have HB1 : Hid (Below w.heap.size w w1) := hb1
    have hown1 := own_below' hown hb1
    have hq1 := (q2.grow hb1).2 0 _ rfl
    clear hb1 c0 c1 c2
    cases K with
    | false =>
      have HE : Hid (R = none) := HR.out.symm.trans (if_neg (fun h => of_decide_eq_false hD h.1))
      clear HU hq1
      go_wp2_with fail
      go_ret
      rw [HE.out]
      exact ⟨rfl, HSH.out.keep HB1.out, HB1.out.mono hBw⟩
    | true =>
      have hK : f.kept = (f.text.size : Int) := of_decide_eq_true hD
      have HK : Hid (f.kept = (f.text.size : Int)) := hK
      clear hD hK
      by_cases hne : t = f.name
      · have HE : Hid (R = none) := HR.out.symm.trans (if_neg (fun h => h.2.1 hne))
        have he : (t.toList == f.name.toList) = true := by rw [hne]; simp
        clear HU hne hq1
        go_wp2_with fail
        go_ret
        rw [HE.out]
        exact ⟨rfl, HSH.out.keep HB1.out, HB1.out.mono hBw⟩
      · have he := str_ne hne
        have HNE : Hid (t ≠ f.name) := hne
        clear hne
        by_cases h2 : decide (1 ≤ t.size ∧ t.size ≤ 8) = true
        · have HE : Hid (R = some (putF ⟨t, f.text, f.kept⟩ (withoutF f.name fs))) := HR.out.symm.trans (if_pos ⟨HK.out, HNE.out, of_decide_eq_true h2⟩)
          go_wp2_with fail
          refine (fileNameOk_is t _ true h2).mono ?_
          intro e w2 hw2
          obtain ⟨rfl, hww⟩ := hw2
          rw [hww]
          clear hww w2
          go_wp2_with (first | (at_delete; refine wpList_delete_own _ rfl _ _ 76 9 rfl 88 lawK Try.underlying76 ptrElem b fs.length D rfl hown1 _ _ rfl hkey ?_; intro w2 hown2 hturn2; have hd1 := (cell_grown hturn2.grown ⟨g, 0, none⟩ (Nat.lt_of_lt_of_le hgl HB1.out.size) (fun e => q4 (by simpa using e.symm))).trans hq1.1; have hd2 := (frozen_grown hturn2.grown ⟨g, 0, none⟩ (Nat.lt_of_lt_of_le hgl HB1.out.size) (fun e => q4 (by simpa using e.symm))).trans hq1.2; have hown3 := hown2.setCell (a := ⟨g, 0, none⟩) (fun e => q4 e.symm) (.string t)) | (at_mapUpdate; refine wpList_mapUpdate_in _ rfl _ _ _ 76 rfl 9 88 lawK Try.underlying76 ptrElem b fs.length (D.del (kl f.name)) rfl hown3 hmx _ _ _ rfl rfl hkt (.lit (.int .i64 g)) [] rfl ?_; intro w3 hown4 hturn4))
          go_ret
          rw [HE.out]
          exact HU.out w1 w2 w3 HB1.out hturn2 hown4 hturn4
        · have h2' : decide (1 ≤ t.size ∧ t.size ≤ 8) = false := by simpa using h2
          have HE : Hid (R = none) := HR.out.symm.trans (if_neg (fun h => of_decide_eq_false h2' h.2.2))
          clear HU hq1
          go_wp2_with fail
          refine (fileNameOk_is t _ false h2').mono ?_
          intro e w2 hw2
          obtain ⟨rfl, hww⟩ := hw2
          rw [hww]
          clear hww w2
          go_wp2_with fail
          go_ret
          rw [HE.out]
          exact ⟨rfl, HSH.out.keep HB1.out, HB1.out.mono hBw⟩
end Go.Proofs.Ytkkpddcncpdnpaa
