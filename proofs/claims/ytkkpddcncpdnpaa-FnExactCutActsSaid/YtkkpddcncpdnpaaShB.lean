/- The shelf's operations: made of a disk; a file's text grows, is kept, is moved, is dropped; an act. -/
import Derived.Test.YtkkpddcncpdnpaaShA
namespace Go.Proofs.Ytkkpddcncpdnpaa
open Go.RowKit Go.Maps
attribute [local go_sem ↓] Go.wp_at_zero Go.wp_at_succ

/-- What an operation on the shelf answers. -/
def ShPost (r : Option (List FM)) (fs : List FM) (B b : Nat) (w : World) (e : Ending) (w' : World) : Prop := e = .returned (.bool r.isSome) ∧ Shelf w' B b (r.getD fs) ∧ Below B w w'
theorem below_turned {B b : Nat} {w0 w w' : World} (h : Below B w0 w) (ht : w.mapTurned w' b) (hb : B ≤ b) (hs : B ≤ w.heap.size) : Below B w0 w' := h.grown ht.grown hs (fun j hj => by simp at hj; omega)
theorem isKey_kl (n : ByteArray) (h : n.size ≤ maxLen) : WideAt.IsKeyLit (kl n) := lawK.key (kl_key n h)
set_option maxHeartbeats 1000000 in
set_option maxRecDepth 100000 in
theorem drop_any (b B : Nat) (fs : List FM) (n : ByteArray) (w : World) (hsh : Shelf w B b fs) (hok : DOk fs) (hn : n.size ≤ 9223372036854775807) :
    Calls Try.prog 65 #[.map (some b), .string n] w fun e w' => ShPost ((fileOf fs n).map fun _ => withoutF n fs) fs B b w e w' := by
  have hkey := kl_key n hn
  obtain ⟨hB, D, G, hown, hsz, hin, hinj, hno⟩ := hsh
  have hbl := hown.lt
  cases hf : fileOf fs n with
  | none =>
    have hnone := fileOf_none hf
    have hab := hno n hnone
    have HS : Hid (∀ w', w'.ownsMap Try.prog 9 ptrElem b fs.length (D.del (kl n)) → w.mapTurned w' b → ShPost none fs B b w (.returned (.bool false)) w') := by
      intro w' ho ht
      refine ⟨rfl, ⟨hB, D, G, by rw [Maps.del_of_not_has hab] at ho; exact ho, hsz, fun f hf => ?_, hinj, hno⟩, below_turned (Below.refl _ _) ht hB (by omega)⟩
      obtain ⟨q1, q2, q3, q4⟩ := hin f hf
      exact ⟨q1, wc_grown q2 ht.grown (fun e => q4 (by simpa using e.symm)), q3, q4⟩
    clear hin hinj hno hok hnone
    go_enter Try.func65, Try.ntmps65
    go_wp2_with (first
      | (at_lookup; refine wpList_absent _ rfl _ _ 76 rfl 9 88 lawK Try.underlying76 (zeroPtr _) b fs.length D rfl hown _ _ rfl hkey hab ?_)
      | (at_delete; refine wpList_delete_own _ rfl _ _ 76 9 rfl 88 lawK Try.underlying76 ptrElem b fs.length D rfl hown _ _ rfl hkey ?_; intro w1 hown1 hturn1))
    go_ret
    exact HS.out _ hown1 hturn1
  | some f =>
    obtain ⟨hm, rfl⟩ := fileOf_some hf
    obtain ⟨q1, q2, q3, q4⟩ := hin f hm
    have hhas := Maps.has_true_of_atKey q1
    have htidy := hown.tidy lawK
    have HS : Hid (∀ w', w'.ownsMap Try.prog 9 ptrElem b fs.length (D.del (kl f.name)) → w.mapTurned w' b → ShPost (some (withoutF f.name fs)) fs B b w (.returned (.bool true)) w') := by
      intro w' ho ht
      have hs1 : Maps.size (D.del (kl f.name)) = (withoutF f.name fs).length := by
        have h1 := Maps.size_del (k := kl f.name) htidy
        rw [hhas] at h1
        have h2 := without_some hok.up hm
        simp at h1
        omega
      refine ⟨rfl, ⟨hB, D.del (kl f.name), G, own_tight ho hs1, hs1, fun f' hf' => ?_, fun f1 h1 f2 h2 e => hinj f1 (mem_withoutF.1 h1).1 f2 (mem_withoutF.1 h2).1 e, fun n hn => ?_⟩, below_turned (Below.refl _ _) ht hB (by omega)⟩
      · obtain ⟨hm', hne⟩ := mem_withoutF.1 hf'
        obtain ⟨p1, p2, p3, p4⟩ := hin f' hm'
        exact ⟨fun z => by rw [Maps.atKey_del_other (fun e => hne (kl_inj e))]; exact p1 z, wc_grown p2 ht.grown (fun e => p4 (by simpa using e.symm)), p3, p4⟩
      · by_cases e : n = f.name
        · subst e; exact Maps.has_del_same
        · rw [Maps.has_del_other (fun e' => e (kl_inj e'))]
          exact hno n fun f' hf' e' => hn f' (mem_withoutF.2 ⟨hf', fun e2 => e (e'.symm.trans e2)⟩) e'
    generalize G f.name = g at *
    clear hin hinj hno hok hhas htidy hsz
    go_enter Try.func65, Try.ntmps65
    go_wp2_with (first
      | (at_lookup; refine wpList_there _ rfl _ _ 76 rfl 9 88 lawK Try.underlying76 (zeroPtr _) b fs.length D rfl hown _ _ rfl hkey g q1 ?_)
      | (at_delete; refine wpList_delete_own _ rfl _ _ 76 9 rfl 88 lawK Try.underlying76 ptrElem b fs.length D rfl hown _ _ rfl hkey ?_; intro w1 hown1 hturn1))
    go_ret
    exact HS.out _ hown1 hturn1
theorem fc_text (f : FM) (t : ByteArray) : (fcells f).set 1 (.string t) = fcells ⟨f.name, t, f.kept⟩ := rfl
theorem fc_kept (f : FM) (k : Int) : (fcells f).set 2 (.int .i64 k) = fcells ⟨f.name, f.text, k⟩ := rfl
theorem fc_name (f : FM) (n : ByteArray) : (fcells f).set 0 (.string n) = fcells ⟨n, f.text, f.kept⟩ := rfl
/-- A file of the shelf is written: its name stays. -/
theorem Shelf.write {w : World} {B b : Nat} {fs : List FM} {D : DataW Unit} {G : ByteArray → Nat} (hok : DOk fs) (hB : B ≤ b) (hown : w.ownsMap Try.prog 9 ptrElem b fs.length D) (hsz : Maps.size D = fs.length)
    (hin : ∀ f ∈ fs, (∀ z, D.atKey (kl f.name) z = .lit (.int .i64 (G f.name))) ∧ WCells w (G f.name) (fcells f) ∧ B ≤ G f.name ∧ G f.name ≠ b)
    (hinj : ∀ f ∈ fs, ∀ f' ∈ fs, G f.name = G f'.name → f.name = f'.name) (hno : ∀ n, (∀ f ∈ fs, f.name ≠ n) → Maps.has D (kl n) = false) {f : FM} (hm : f ∈ fs) (i : Nat) (v : Value) (f' : FM) (hn : f'.name = f.name) (hi : i < 3) (hf' : (fcells f).set i v = fcells f') :
    Shelf (w.setCell ⟨G f.name, i, none⟩ v) B b (putF f' fs) := by
  obtain ⟨q1, q2, q3, q4⟩ := hin f hm
  refine Shelf.put (D := D) (G := G) (g := G f.name) hB (hown.setCell (a := ⟨G f.name, i, none⟩) (fun e => q4 e.symm) v) (by rw [len_put_there hok.up hm f' hn]; exact hsz) (fun f2 h2 => ⟨(hin f2 h2).1, (hin f2 h2).2.2⟩) hinj hno (fun l _ => ⟨fun _ => rfl, rfl⟩) (by rw [hn]; exact q1) ?_ (fun f2 h2 hne => ?_) (fun f2 h2 hne e => hne (by rw [hn]; exact hinj f2 h2 f hm e)) q3 q4
  · have := q2.set i v (by rw [fcells_len]; exact hi)
    rwa [hf'] at this
  · exact (hin f2 h2).2.1.other _ _ (fun e => hne (by rw [hn]; exact hinj f2 h2 f hm e))
set_option maxHeartbeats 1000000 in
set_option maxRecDepth 100000 in
theorem keep_any (b B : Nat) (fs : List FM) (n : ByteArray) (w : World) (hsh : Shelf w B b fs) (hok : DOk fs) (hn : n.size ≤ 9223372036854775807) :
    Calls Try.prog 63 #[.map (some b), .string n] w fun e w' => ShPost ((fileOf fs n).map fun f => putF ⟨n, f.text, (f.text.size : Int)⟩ fs) fs B b w e w' := by
  have hkey := kl_key n hn
  have HSH : Hid (Shelf w B b fs) := hsh
  obtain ⟨hB, D, G, hown, hsz, hin, hinj, hno⟩ := hsh
  cases hf : fileOf fs n with
  | none =>
    have hab := hno n (fileOf_none hf)
    clear hin hinj hno hok
    go_enter Try.func63, Try.ntmps63
    go_wp2_with (at_lookup; refine wpList_absent _ rfl _ _ 76 rfl 9 88 lawK Try.underlying76 (zeroPtr _) b fs.length D rfl hown _ _ rfl hkey hab ?_)
    go_ret
    exact ⟨rfl, HSH.out, Below.refl _ _⟩
  | some f =>
    obtain ⟨hm, rfl⟩ := fileOf_some hf
    obtain ⟨q1, q2, q3, q4⟩ := hin f hm
    have HS : Hid (ShPost (some (putF ⟨f.name, f.text, (f.text.size : Int)⟩ fs)) fs B b w (.returned (.bool true)) (w.setCell ⟨G f.name, 2, none⟩ (.int .i64 (f.text.size : Int)))) :=
      ⟨rfl, Shelf.write hok hB hown hsz hin hinj hno hm 2 _ ⟨f.name, f.text, (f.text.size : Int)⟩ rfl (by decide) rfl, (Below.refl _ _).setCell q3 _⟩
    obtain ⟨c1, _⟩ := q2.2 1 _ rfl
    obtain ⟨c2, z2⟩ := q2.2 2 _ rfl
    generalize G f.name = g at *
    clear hin hinj hno hok hsz q2
    go_enter Try.func63, Try.ntmps63
    go_wp2_with (at_lookup; refine wpList_there _ rfl _ _ 76 rfl 9 88 lawK Try.underlying76 (zeroPtr _) b fs.length D rfl hown _ _ rfl hkey g q1 ?_)
    go_ret
    exact HS.out
set_option maxHeartbeats 2000000 in
set_option maxRecDepth 100000 in
theorem add_any (b B : Nat) (fs : List FM) (n t : ByteArray) (w : World) (hsh : Shelf w B b fs) (hok : DOk fs) (hn : n.size ≤ 9223372036854775807) (ht : t.size ≤ 1048576) (hBw : B ≤ w.heap.size) :
    Calls Try.prog 62 #[.map (some b), .string n, .string t] w fun e w' => ShPost (doA fs ⟨1, n, t, ⟨#[]⟩⟩) fs B b w e w' := by
  have hkey := kl_key n hn
  have hik := isKey_kl n hn
  have HSH : Hid (Shelf w B b fs) := hsh
  have h30 := hok.1
  obtain ⟨hB, D, G, hown, hsz, hin, hinj, hno⟩ := hsh
  have hbl := hown.lt
  have htidy := hown.tidy lawK
  cases hf : fileOf fs n with
  | none =>
    have hnone := fileOf_none hf
    have hab := hno n hnone
    rw [doA_add_new hok hf]
    have HU : Hid (∀ w1 w2 : World, Below w.heap.size w w1 → WCells w1 w.heap.size (fcells ⟨n, t, 0⟩) → w2.ownsMap Try.prog 9 ptrElem b (fs.length + 1) (D.put (kl n) (.lit (.int .i64 w.heap.size))) → w1.mapTurned w2 b → ShPost (some (putF ⟨n, t, 0⟩ fs)) fs B b w (.returned (.bool true)) w2) := by
      intro w1 w2 hb1 hc1 ho ht
      have hcell : ∀ g X, g ≠ b → WCells w1 g X → WCells w2 g X := fun g X hg hc => wc_grown hc ht.grown (fun e => hg (by simpa using e.symm))
      refine ⟨rfl, Shelf.put (D := D) (G := G) (g := w.heap.size) hB ho ?_ (fun f2 h2 => ⟨(hin f2 h2).1, (hin f2 h2).2.2⟩) hinj hno (fun l hl => ⟨fun z => Maps.atKey_put_other hl _ z, Maps.has_put_other hl _⟩) (fun z => Maps.atKey_put_same hown.isMap hik _ z) (hcell _ _ (by omega) hc1) (fun f2 h2 hne => ?_) (fun f2 h2 hne => ?_) hBw (by omega), below_turned (hb1.mono hBw) ht hB (by have := hb1.size; omega)⟩
      · rw [Maps.size_put htidy, hab, put_len hok.up, without_none hnone, hsz]; rfl
      · exact hcell _ _ (hin f2 h2).2.2.2 ((hin f2 h2).2.1.grow hb1)
      · have := (hin f2 h2).2.1.1; omega
    clear hin hinj hno htidy hf hnone
    by_cases h1 : fs.length = 30
    · rw [if_neg (fun h => by omega)]
      have hl30 : ((fs.length : Nat) : Int) = 30 := by omega
      clear HU
      go_enter Try.func62, Try.ntmps62
      go_wp2_with (first | (at_lookup; refine wpList_absent _ rfl _ _ 76 rfl 9 88 lawK Try.underlying76 (zeroPtr _) b fs.length D rfl hown _ _ rfl hkey hab ?_) | (at_len; refine wpList_len_own _ rfl _ 76 rfl 9 88 Try.underlying76 ptrElem b fs.length D rfl hown ?_))
      go_ret
      exact ⟨rfl, HSH.out, Below.refl _ _⟩
    · have hl30 : ¬ ((fs.length : Nat) : Int) = 30 := by omega
      by_cases h2 : decide (1 ≤ n.size ∧ n.size ≤ 8) = true
      · have h2' := of_decide_eq_true h2
        by_cases h3 : t.size ≤ 20000
        · rw [if_pos ⟨h2', by omega, h3⟩]
          have h3' : ¬ (20000 : Int) < (t.size : Int) := by omega
          have hmx : fs.length < maxLen := by unfold maxLen; omega
          go_enter Try.func62, Try.ntmps62
          go_wp2_with (first | (at_lookup; refine wpList_absent _ rfl _ _ 76 rfl 9 88 lawK Try.underlying76 (zeroPtr _) b fs.length D rfl hown _ _ rfl hkey hab ?_) | (at_len; refine wpList_len_own _ rfl _ 76 rfl 9 88 Try.underlying76 ptrElem b fs.length D rfl hown ?_))
          refine (fileNameOk_is n _ true h2).mono ?_
          intro e w1 hw1
          obtain ⟨rfl, hww⟩ := hw1
          rw [hww]
          clear hww w1
          have hown1 := hown.alloc (.cells #[.string n, .string (⟨#[]⟩ ++ t), .int .i64 0] 64)
          have HB : Hid (Below w.heap.size w (w.alloc (.cells #[.string n, .string (⟨#[]⟩ ++ t), .int .i64 0] 64))) := (Below.refl _ _).alloc (Nat.le_refl _) _
          have HC : Hid (WCells (w.alloc (.cells #[.string n, .string (⟨#[]⟩ ++ t), .int .i64 0] 64)) w.heap.size (fcells ⟨n, t, 0⟩)) := by
            have := wcells_new w #[.string n, .string (⟨#[]⟩ ++ t), .int .i64 0] 64
            rw [empty_app] at this ⊢
            exact this
          go_wp2_with (at_mapUpdate; refine wpList_mapUpdate_in _ rfl _ _ _ 76 rfl 9 88 lawK Try.underlying76 ptrElem b fs.length D rfl hown1 hmx _ _ _ rfl rfl hkey (.lit (.int .i64 w.heap.size)) [] rfl ?_; intro w2 hown2 hturn2)
          go_ret
          exact HU.out _ _ HB.out HC.out hown2 hturn2
        · rw [if_neg (fun h => h3 h.2.2)]
          have h3' : (20000 : Int) < (t.size : Int) := by omega
          clear HU
          have HB : Hid (Below w.heap.size w (w.alloc (.cells #[.string n, .string ⟨#[]⟩, .int .i64 0] 64))) := (Below.refl _ _).alloc (Nat.le_refl _) _
          go_enter Try.func62, Try.ntmps62
          go_wp2_with (first | (at_lookup; refine wpList_absent _ rfl _ _ 76 rfl 9 88 lawK Try.underlying76 (zeroPtr _) b fs.length D rfl hown _ _ rfl hkey hab ?_) | (at_len; refine wpList_len_own _ rfl _ 76 rfl 9 88 Try.underlying76 ptrElem b fs.length D rfl hown ?_))
          refine (fileNameOk_is n _ true h2).mono ?_
          rintro e w1 ⟨rfl, rfl⟩
          go_wp2_with fail
          go_ret
          exact ⟨rfl, HSH.out.keep HB.out, HB.out.mono hBw⟩
      · have h2' : decide (1 ≤ n.size ∧ n.size ≤ 8) = false := by simpa using h2
        rw [if_neg (fun h => of_decide_eq_false h2' h.1)]
        clear HU
        go_enter Try.func62, Try.ntmps62
        go_wp2_with (first | (at_lookup; refine wpList_absent _ rfl _ _ 76 rfl 9 88 lawK Try.underlying76 (zeroPtr _) b fs.length D rfl hown _ _ rfl hkey hab ?_) | (at_len; refine wpList_len_own _ rfl _ 76 rfl 9 88 Try.underlying76 ptrElem b fs.length D rfl hown ?_))
        refine (fileNameOk_is n _ false h2').mono ?_
        rintro e w1 ⟨rfl, rfl⟩
        go_wp2_with fail
        go_ret
        exact ⟨rfl, HSH.out, Below.refl _ _⟩
  | some f =>
    rw [doA_add_there hok hf]
    obtain ⟨hm, rfl⟩ := fileOf_some hf
    obtain ⟨q1, q2, q3, q4⟩ := hin f hm
    have hfs := (hok.ok f hm).2.1
    have hhas := Maps.has_true_of_atKey q1
    have HU : Hid (∀ w2 : World, w2.ownsMap Try.prog 9 ptrElem b (fs.length + 1) (D.put (kl f.name) (.lit (.int .i64 (G f.name)))) → (w.setCell ⟨G f.name, 1, none⟩ (.string (f.text ++ t))).mapTurned w2 b → ShPost (some (putF ⟨f.name, f.text ++ t, f.kept⟩ fs)) fs B b w (.returned (.bool true)) w2) := by
      intro w2 ho ht
      have hcell : ∀ g X, g ≠ b → WCells (w.setCell ⟨G f.name, 1, none⟩ (.string (f.text ++ t))) g X → WCells w2 g X := fun g X hg hc => wc_grown hc ht.grown (fun e => hg (by simpa using e.symm))
      have hnew : WCells (w.setCell ⟨G f.name, 1, none⟩ (.string (f.text ++ t))) (G f.name) (fcells ⟨f.name, f.text ++ t, f.kept⟩) := q2.set 1 (.string (f.text ++ t)) (by rw [fcells_len]; decide)
      refine ⟨rfl, Shelf.put (D := D) (G := G) (g := G f.name) hB ho ?_ (fun f2 h2 => ⟨(hin f2 h2).1, (hin f2 h2).2.2⟩) hinj hno (fun l hl => ⟨fun z => Maps.atKey_put_other hl _ z, Maps.has_put_other hl _⟩) (fun z => Maps.atKey_put_same hown.isMap hik _ z) (hcell _ _ q4 hnew) (fun f2 h2 hne => ?_) (fun f2 h2 hne e => hne (hinj f2 h2 f hm e)) q3 q4, below_turned ((Below.refl _ _).setCell q3 _) ht hB (by simpa [World.setCell] using hBw)⟩
      · rw [Maps.size_put htidy, hhas, len_put_there hok.up hm ⟨f.name, f.text ++ t, f.kept⟩ rfl, hsz]; rfl
      · exact hcell _ _ (hin f2 h2).2.2.2 ((hin f2 h2).2.1.other _ _ (fun e => hne (hinj f2 h2 f hm e)))
    obtain ⟨c1, z1⟩ := q2.2 1 _ rfl
    have hown1 := hown.setCell (a := ⟨G f.name, 1, none⟩) (fun e => q4 e.symm) (.string (f.text ++ t))
    generalize G f.name = g at *
    clear hin hinj hno htidy hf hok q2 hsz hhas
    have hmx : fs.length < maxLen := by unfold maxLen; omega
    by_cases h3 : f.text.size + t.size ≤ 20000
    · rw [if_pos h3]
      have h3' : ¬ (20000 : Int) - (f.text.size : Int) < (t.size : Int) := by omega
      clear HSH h3
      go_enter Try.func62, Try.ntmps62
      go_wp2_with (first | (at_lookup; refine wpList_there _ rfl _ _ 76 rfl 9 88 lawK Try.underlying76 (zeroPtr _) b fs.length D rfl hown _ _ rfl hkey g q1 ?_) | (at_mapUpdate; refine wpList_mapUpdate_in _ rfl _ _ _ 76 rfl 9 88 lawK Try.underlying76 ptrElem b fs.length D rfl hown1 hmx _ _ _ rfl rfl hkey (.lit (.int .i64 g)) [] rfl ?_; intro w2 hown2 hturn2))
      go_ret
      exact HU.out _ hown2 hturn2
    · rw [if_neg h3]
      have h3' : (20000 : Int) - (f.text.size : Int) < (t.size : Int) := by omega
      clear HU h3
      go_enter Try.func62, Try.ntmps62
      go_wp2_with (at_lookup; refine wpList_there _ rfl _ _ 76 rfl 9 88 lawK Try.underlying76 (zeroPtr _) b fs.length D rfl hown _ _ rfl hkey g q1 ?_)
      go_ret
      exact ⟨rfl, HSH.out, Below.refl _ _⟩
end Go.Proofs.Ytkkpddcncpdnpaa
