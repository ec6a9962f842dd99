/- The walk of the program's PartsOf. -/
import Derived.Test.YtphhiomiiapcpaiDoorParts
import Derived.Test.YtphhiomiiapcpaiDoorShelf
import Derived.Lib.SmallJoins
namespace Go.Proofs.YtphhiomiiapcpaiDoor
open Go.RowKit
open Go.PlainAid (bt)

theorem strClone (s : ByteArray) (w : World) (h : s.size ≤ 281474976710656) :
    Calls Tryd.prog 15 #[.string s] w fun e w' => e = .returned (.string s) ∧ Below w.heap.size w w' := by
  go_enter Tryd.func15, Tryd.ntmps15
  go_wp2_with fail
  refine (Tryd.stringslite_Clone s _ h).mono ?_
  rintro e w1 ⟨rfl, hb⟩
  go_wp2_with fail
  go_ret
  exact ⟨rfl, hb⟩

theorem ascii_of {s : ByteArray} (h : W.printable s) : ∀ (j : Nat) b, s.data.toList[j]? = some b → b.toNat < 128 := by
  intro j b hj
  have hlt : j < s.size := by
    have := (List.getElem?_eq_some_iff.1 hj).1
    simpa using this
  have := h j hlt
  unfold bt at this
  rw [dif_pos hlt] at this
  have e : s[j] = b := (List.getElem?_eq_some_iff.1 hj).2
  rw [e] at this
  omega
theorem set_self (xs : List ByteArray) (k : Nat) {x : ByteArray} (hx : x = xs.getD k ⟨#[]⟩) : xs.set k x = xs := by
  rw [hx]; apply List.ext_getElem (by simp)
  intro j h1 h2
  rw [List.getElem_set]
  split
  · rename_i e; subst e; simp [List.getD, h2]
  · rfl
theorem fields_row (s : ByteArray) (w : World) : WRow (w.alloc (.cells ((Lib.fields s.data.toList).map fun l => Value.string ⟨l.toArray⟩).toArray 9)) w.heap.size ((Lib.fields s.data.toList).map mkB) := by
  refine ⟨by simp, fun j hj => ?_⟩
  rw [List.length_map] at hj
  refine ⟨?_, ?_⟩
  · rw [World.cell?_alloc_mark]
    simp [List.getD, hj, mkB]
  · rw [World.frozen?_alloc_mark]; simp
theorem field_len : ∀ (l cur : List UInt8), ∀ x ∈ Lib.fieldsGo cur l, x.length ≤ cur.length + l.length
  | [], cur => by
    intro x hx
    cases cur with
    | nil => simp [Lib.fieldsGo] at hx
    | cons c r => simp [Lib.fieldsGo] at hx; subst hx; simp
  | b :: l, cur => by
    intro x hx
    by_cases h : Lib.isSp b = true
    · cases cur with
      | nil => rw [Lib.fieldsGo_sp _ _ h] at hx; have := field_len l [] x hx; simp at this ⊢; omega
      | cons c r =>
        rw [Lib.fieldsGo_end _ _ _ h (by simp)] at hx
        rcases List.mem_cons.1 hx with e | hx
        · subst e; simp
        · have := field_len l [] x hx; simp at this ⊢; omega
    · rw [Lib.fieldsGo_more _ _ _ (by simpa using h)] at hx
      have := field_len l (cur ++ [b]) x hx
      simp at this ⊢; omega
theorem field_size (s : ByteArray) (h : s.size ≤ 600) (j : Nat) : (((Lib.fields s.data.toList).map mkB).getD j ⟨#[]⟩).size ≤ 281474976710656 := by
  by_cases hj : j < (Lib.fields s.data.toList).length
  · have := field_len s.data.toList [] _ (List.getElem_mem hj)
    have e : s.data.toList.length = s.size := rfl
    have e2 : (((Lib.fields s.data.toList).map mkB).getD j ⟨#[]⟩) = mkB (Lib.fields s.data.toList)[j] := by simp [List.getD, hj]
    rw [e2]
    have e3 : ∀ l : List UInt8, (mkB l).size = l.length := fun l => rfl
    rw [e3]
    simp only [List.length_nil] at this
    omega
  · have e2 : (((Lib.fields s.data.toList).map mkB).getD j ⟨#[]⟩) = ⟨#[]⟩ := by rw [List.getD, List.getElem?_eq_none (by rw [List.length_map]; omega)]; rfl
    rw [e2]
    exact Nat.zero_le _
theorem fields_any (s : ByteArray) (w : World) (hs : s.size ≤ 600) (h : W.printable s) (htab : Lib.TabIs Tryd.prog w "strings.asciiSpace" .u8 Lib.asciiSpaceTab) :
    Calls Tryd.prog 14 #[.string s] w fun e w' => e = .returned (.slice (some ⟨w.heap.size, 0, none⟩) (Lib.fields s.data.toList).length (Lib.fields s.data.toList).length) ∧ WRow w' w.heap.size ((Lib.fields s.data.toList).map mkB) ∧ Below w.heap.size w w' := by
  refine (Tryd.strings_Fields s _ (by omega) (ascii_of h) htab).mono ?_
  rintro e w1 ⟨rfl, rfl⟩
  exact ⟨rfl, fields_row s w, (Below.refl _ _).alloc (Nat.le_refl _) _⟩

set_option maxHeartbeats 1000000 in
theorem implPartsOf (s : ByteArray) (w : World) (htab : Lib.TabIs Tryd.prog w "strings.asciiSpace" .u8 Lib.asciiSpaceTab) :
    Calls Tryd.prog 8 #[.string s] w fun e w' => PartsPost s w e w' := by
  have hb := Go.PlainAid.get_bt s
  have HT : Hid _ := htab
  clear htab
  by_cases hl : 600 < s.size
  · go_enter Tryd.func8, Tryd.ntmps8
    go_wp2_with fail
    go_ret2
    exact PartsPost.empty (.inl hl) (Below.refl _ _)
  · have hld : decide ((600 : Int) < s.size) = false := by simp; omega
    go_enter Tryd.func8, Tryd.ntmps8
    go_wp2_with fail
    go_loop [12] (fun i => ∃ (k : Nat), i = .int .i64 k ∧ k ≤ s.size ∧ (∀ j, j < k → 32 ≤ bt s j ∧ bt s j ≤ 126)) (fun i => s.size - (intOf i).toNat)
    case atStart => exact ⟨0, rfl, by omega, fun j h => by omega⟩
    case round =>
      obtain ⟨k, rfl, hk, hp⟩ := hrel
      have HP : Hid _ := hp
      clear hp
      by_cases hlt : k < s.size
      · have b0 := Go.PlainAid.bt_nonneg s k
        have b1 := Go.PlainAid.bt_le s k
        by_cases c1 : bt s k < 32
        · go_wp2_with fail
          go_ret2
          exact PartsPost.empty (.inr (.inl (fun h => by have := h k hlt; omega))) (Below.refl _ _)
        · by_cases c2 : 126 < bt s k
          · go_wp2_with fail
            go_ret2
            exact PartsPost.empty (.inr (.inl (fun h => by have := h k hlt; omega))) (Below.refl _ _)
          · go_wp2_with fail
            go_round
            case rel => exact ⟨k + 1, by go_num, by omega, fun j hj => by
              by_cases e : j = k
              · subst e; omega
              · exact HP.out j (by omega)⟩
            case measure => simp [intOf]; omega
      · have hpr : W.printable s := fun j hj => HP.out j (by omega)
        have HQ : Hid _ := hpr
        clear hpr
        have hfl := W.fields_len s
        go_wp2_with fail
        refine (fields_any s _ (by omega) HQ.out HT.out).mono ?_
        obtain ⟨n, hn⟩ : ∃ n, n = (Lib.fields s.data.toList).length := ⟨_, rfl⟩
        rw [← hn] at hfl ⊢
        have HN : Hid _ := hn
        clear hn
        rintro e w1 ⟨rfl, hw1, hb1⟩
        obtain ⟨xs, hx⟩ : ∃ xs, xs = (Lib.fields s.data.toList).map mkB := ⟨_, rfl⟩
        have hxs : ∀ j, (xs.getD j ⟨#[]⟩).size ≤ 281474976710656 := by rw [hx]; exact field_size s (by omega)
        rw [← hx] at hw1
        have HX : Hid _ := hx
        have hxl : n = xs.length := by rw [hx, List.length_map]; exact HN.out
        have HL : Hid _ := hxl
        clear hx hxl
        by_cases h10 : 10 < n
        · go_wp2_with fail
          go_ret2
          exact PartsPost.empty (.inr (.inr (by rw [← HN.out]; exact h10))) hb1
        · have h10d : decide ((10 : Int) < n) = false := by simp; omega
          go_wp2_with fail
          go_loopw [33] (fun i wr => ∃ (k : Nat), i = .int .i64 k ∧ k ≤ n ∧ WRow wr w.heap.size xs ∧ Below w.heap.size w wr) (fun i _ => n - (intOf i).toNat)
          case atStart => exact ⟨0, rfl, by omega, hw1, hb1⟩
          case round =>
            clear hw1 hb1
            obtain ⟨k, rfl, hk, hw, hbl⟩ := hrel
            by_cases hkn : k < n
            · have k0 : (0 : Int) ≤ (k : Int) := by omega
              have k1 : (k : Int) < (n : Int) := by omega
              obtain ⟨x, hx⟩ : ∃ x, x = xs.getD k ⟨#[]⟩ := ⟨_, rfl⟩
              have hxk := hxs k
              have c1 := (hw.2 k (by have := HL.out; omega)).1
              rw [← hx] at c1 hxk
              have HXX : Hid _ := hx
              clear hx
              have hB := hbl.size
              have hwlt := hw.1
              go_wp2_with fail
              refine (strClone x _ hxk).mono ?_
              rintro e w2 ⟨rfl, hb2⟩
              have hw2 := hw.below hb2 hwlt
              have d1 := (hw2.2 k (by have := HL.out; omega)).1
              have d2 := (hw2.2 k (by have := HL.out; omega)).2
              have hset := hw2.set k x (by have := HL.out; omega)
              rw [set_self xs k HXX.out] at hset
              have hbn := (hbl.trans (hb2.mono hB)).setCell (p := ⟨w.heap.size, k, none⟩) (Nat.le_refl _) (.string x)
              clear hw hbl hb2 c1
              go_wp2_with fail
              go_roundw
              case rel => exact ⟨k + 1, by go_num, by omega, hset, hbn⟩
              case measure => simp [intOf]; omega
            · go_wp2_with fail
              go_ret2
              refine ⟨some ⟨w.heap.size, 0, none⟩, n, xs, true, ?_, .inl ⟨rfl, by omega, HQ.out, by rw [← HN.out]; omega, HX.out⟩, ⟨by have := HL.out; omega, .inr ⟨_, rfl, Nat.le_refl _, hw⟩⟩, hbl⟩
              rw [← HL.out]
              rfl
end Go.Proofs.YtphhiomiiapcpaiDoor
