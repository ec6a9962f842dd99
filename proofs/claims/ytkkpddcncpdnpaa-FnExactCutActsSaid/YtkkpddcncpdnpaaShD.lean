/- An act on the shelf. -/
import Derived.Test.YtkkpddcncpdnpaaShC
namespace Go.Proofs.Ytkkpddcncpdnpaa
open Go.RowKit Go.Maps
attribute [local go_sem ↓] Go.wp_at_zero Go.wp_at_succ

theorem not_empty {s : ByteArray} (h : s ≠ ⟨#[]⟩) : s.toList.isEmpty = false := by
  rw [ByteArray.toList_eq]
  cases hs : s.data.toList with
  | nil => exact absurd (ByteArray.ext (by simpa using hs)) h
  | cons x xs => rfl
theorem addR (b B : Nat) (fs : List FM) (n t : ByteArray) (w : World) (R : Option (List FM)) (hR : doA fs ⟨1, n, t, ⟨#[]⟩⟩ = R) (hsh : Shelf w B b fs) (hok : DOk fs) (hn : n.size ≤ 9223372036854775807) (ht : t.size ≤ 1048576) (hBw : B ≤ w.heap.size) :
    Calls Try.prog 62 #[.map (some b), .string n, .string t] w fun e w' => ShPost R fs B b w e w' := hR ▸ add_any b B fs n t w hsh hok hn ht hBw
theorem keepR (b B : Nat) (fs : List FM) (n : ByteArray) (w : World) (R : Option (List FM)) (hR : doA fs ⟨2, n, ⟨#[]⟩, ⟨#[]⟩⟩ = R) (hsh : Shelf w B b fs) (hok : DOk fs) (hn : n.size ≤ 9223372036854775807) :
    Calls Try.prog 63 #[.map (some b), .string n] w fun e w' => ShPost R fs B b w e w' := by
  rw [← hR, doA_keep hok]; exact keep_any b B fs n w hsh hok hn
theorem dropR (b B : Nat) (fs : List FM) (n : ByteArray) (w : World) (R : Option (List FM)) (hR : doA fs ⟨4, n, ⟨#[]⟩, ⟨#[]⟩⟩ = R) (hsh : Shelf w B b fs) (hok : DOk fs) (hn : n.size ≤ 9223372036854775807) :
    Calls Try.prog 65 #[.map (some b), .string n] w fun e w' => ShPost R fs B b w e w' := by
  rw [← hR, doA_drop hok]; exact drop_any b B fs n w hsh hok hn
theorem moveR (b B : Nat) (fs : List FM) (n t : ByteArray) (w : World) (R : Option (List FM)) (hR : doA fs ⟨3, n, ⟨#[]⟩, t⟩ = R) (hsh : Shelf w B b fs) (hok : DOk fs) (hn : n.size ≤ 9223372036854775807) (ht : t.size ≤ 9223372036854775807) (hBw : B ≤ w.heap.size) :
    Calls Try.prog 64 #[.map (some b), .string n, .string t] w fun e w' => ShPost R fs B b w e w' := hR ▸ move_any b B fs n t w hsh hok hn ht hBw
set_option maxHeartbeats 4000000 in
set_option maxRecDepth 100000 in
theorem do_any (b B : Nat) (fs : List FM) (a : AM) (w : World) (hsh : Shelf w B b fs) (hok : DOk fs) (hn : a.name.size ≤ 9223372036854775807) (ht : a.text.size ≤ 1048576) (ho : a.to.size ≤ 9223372036854775807) (hBw : B ≤ w.heap.size) :
    Calls Try.prog 52 #[.map (some b), av a] w fun e w' => ShPost (doA fs a) fs B b w e w' := by
  obtain ⟨k, n, t, o⟩ := a
  have HSH : Hid (Shelf w B b fs) := hsh
  have HOK : Hid (DOk fs) := hok
  have hBa : ∀ x : Obj, B ≤ (w.alloc x).heap.size := fun x => by simp; omega
  simp only at hn ht ho
  clear hsh hok
  by_cases ht0 : t = ⟨#[]⟩
  · by_cases ho0 : o = ⟨#[]⟩
    · subst ht0 ho0
      by_cases k1 : k = 1
      · subst k1
        have HB : Hid (Below w.heap.size w (w.alloc (.cells #[.int .i64 1, .string n, .string ⟨#[]⟩, .string ⟨#[]⟩] 41))) := (Below.refl _ _).alloc (Nat.le_refl _) _
        generalize hRe : doA fs ⟨1, n, ⟨#[]⟩, ⟨#[]⟩⟩ = R at *
        have HRe : Hid (doA fs ⟨1, n, ⟨#[]⟩, ⟨#[]⟩⟩ = R) := hRe
        clear hRe
        go_enter Try.func52, Try.ntmps52
        go_wp2_with fail
        refine (addR b B fs n ⟨#[]⟩ _ R HRe.out (HSH.out.keep HB.out) HOK.out hn ht (hBa _)).mono ?_
        rintro e w1 ⟨he, hs1, hb1⟩
        subst he
        go_wp2_with fail
        go_ret
        exact ⟨rfl, hs1, (HB.out.mono hBw).trans hb1⟩
      · by_cases k2 : k = 2
        · subst k2
          have HB : Hid (Below w.heap.size w (w.alloc (.cells #[.int .i64 2, .string n, .string ⟨#[]⟩, .string ⟨#[]⟩] 41))) := (Below.refl _ _).alloc (Nat.le_refl _) _
          generalize hRe : doA fs ⟨2, n, ⟨#[]⟩, ⟨#[]⟩⟩ = R at *
          have HRe : Hid (doA fs ⟨2, n, ⟨#[]⟩, ⟨#[]⟩⟩ = R) := hRe
          clear hRe
          go_enter Try.func52, Try.ntmps52
          go_wp2_with fail
          refine (keepR b B fs n _ R HRe.out (HSH.out.keep HB.out) HOK.out hn).mono ?_
          rintro e w1 ⟨he, hs1, hb1⟩
          subst he
          go_wp2_with fail
          go_ret
          exact ⟨rfl, hs1, (HB.out.mono hBw).trans hb1⟩
        · by_cases k3 : k = 3
          · subst k3
            have HB : Hid (Below w.heap.size w (w.alloc (.cells #[.int .i64 3, .string n, .string ⟨#[]⟩, .string ⟨#[]⟩] 41))) := (Below.refl _ _).alloc (Nat.le_refl _) _
            generalize hRe : doA fs ⟨3, n, ⟨#[]⟩, ⟨#[]⟩⟩ = R at *
            have HRe : Hid (doA fs ⟨3, n, ⟨#[]⟩, ⟨#[]⟩⟩ = R) := hRe
            clear hRe
            go_enter Try.func52, Try.ntmps52
            go_wp2_with fail
            refine (moveR b B fs n ⟨#[]⟩ _ R HRe.out (HSH.out.keep HB.out) HOK.out hn ho (hBa _)).mono ?_
            rintro e w1 ⟨he, hs1, hb1⟩
            subst he
            go_wp2_with fail
            go_ret
            exact ⟨rfl, hs1, (HB.out.mono hBw).trans hb1⟩
          · by_cases k4 : k = 4
            · subst k4
              have HB : Hid (Below w.heap.size w (w.alloc (.cells #[.int .i64 4, .string n, .string ⟨#[]⟩, .string ⟨#[]⟩] 41))) := (Below.refl _ _).alloc (Nat.le_refl _) _
              generalize hRe : doA fs ⟨4, n, ⟨#[]⟩, ⟨#[]⟩⟩ = R at *
              have HRe : Hid (doA fs ⟨4, n, ⟨#[]⟩, ⟨#[]⟩⟩ = R) := hRe
              clear hRe
              go_enter Try.func52, Try.ntmps52
              go_wp2_with fail
              refine (dropR b B fs n _ R HRe.out (HSH.out.keep HB.out) HOK.out hn).mono ?_
              rintro e w1 ⟨he, hs1, hb1⟩
              subst he
              go_wp2_with fail
              go_ret
              exact ⟨rfl, hs1, (HB.out.mono hBw).trans hb1⟩
            · rw [doA_kind ⟨k1, k2, k3, k4⟩]
              have HB : Hid (Below w.heap.size w (w.alloc (.cells #[.int .i64 k, .string n, .string ⟨#[]⟩, .string ⟨#[]⟩] 41))) := (Below.refl _ _).alloc (Nat.le_refl _) _
              go_enter Try.func52, Try.ntmps52
              go_wp2_with fail
              go_ret
              exact ⟨rfl, HSH.out.keep HB.out, HB.out.mono hBw⟩
    · subst ht0
      have hoe : o.toList.isEmpty = false := not_empty ho0
      by_cases k3 : k = 3
      · subst k3
        clear ho0
        have HB : Hid (Below w.heap.size w (w.alloc (.cells #[.int .i64 3, .string n, .string ⟨#[]⟩, .string o] 41))) := (Below.refl _ _).alloc (Nat.le_refl _) _
        generalize hRe : doA fs ⟨3, n, ⟨#[]⟩, o⟩ = R at *
        have HRe : Hid (doA fs ⟨3, n, ⟨#[]⟩, o⟩ = R) := hRe
        clear hRe
        go_enter Try.func52, Try.ntmps52
        go_wp2_with fail
        refine (moveR b B fs n o _ R HRe.out (HSH.out.keep HB.out) HOK.out hn ho (hBa _)).mono ?_
        rintro e w1 ⟨he, hs1, hb1⟩
        subst he
        go_wp2_with fail
        go_ret
        exact ⟨rfl, hs1, (HB.out.mono hBw).trans hb1⟩
      · by_cases k1 : k = 1
        · subst k1
          rw [doA_wrong (.inr ⟨(by decide : (1 : Int) ≠ 3), ho0⟩)]
          have HB : Hid (Below w.heap.size w (w.alloc (.cells #[.int .i64 1, .string n, .string ⟨#[]⟩, .string o] 41))) := (Below.refl _ _).alloc (Nat.le_refl _) _
          clear ho0
          go_enter Try.func52, Try.ntmps52
          go_wp2_with fail
          go_ret
          exact ⟨rfl, HSH.out.keep HB.out, HB.out.mono hBw⟩
        · rw [doA_wrong (.inr ⟨k3, ho0⟩)]
          have HB : Hid (Below w.heap.size w (w.alloc (.cells #[.int .i64 k, .string n, .string ⟨#[]⟩, .string o] 41))) := (Below.refl _ _).alloc (Nat.le_refl _) _
          have k3' : (k != 3) = true := by simpa using k3
          have k1' : (k != 1) = true := by simpa using k1
          clear ho0 k1 k3
          go_enter Try.func52, Try.ntmps52
          go_wp2_with fail
          go_ret
          exact ⟨rfl, HSH.out.keep HB.out, HB.out.mono hBw⟩
  · have hte : t.toList.isEmpty = false := not_empty ht0
    by_cases k1 : k = 1
    · subst k1
      by_cases ho0 : o = ⟨#[]⟩
      · subst ho0
        clear ht0
        have HB : Hid (Below w.heap.size w (w.alloc (.cells #[.int .i64 1, .string n, .string t, .string ⟨#[]⟩] 41))) := (Below.refl _ _).alloc (Nat.le_refl _) _
        generalize hRe : doA fs ⟨1, n, t, ⟨#[]⟩⟩ = R at *
        have HRe : Hid (doA fs ⟨1, n, t, ⟨#[]⟩⟩ = R) := hRe
        clear hRe
        go_enter Try.func52, Try.ntmps52
        go_wp2_with fail
        refine (addR b B fs n t _ R HRe.out (HSH.out.keep HB.out) HOK.out hn ht (hBa _)).mono ?_
        rintro e w1 ⟨he, hs1, hb1⟩
        subst he
        go_wp2_with fail
        go_ret
        exact ⟨rfl, hs1, (HB.out.mono hBw).trans hb1⟩
      · have hoe : o.toList.isEmpty = false := not_empty ho0
        rw [doA_wrong (.inr ⟨(by decide : (1 : Int) ≠ 3), ho0⟩)]
        have HB : Hid (Below w.heap.size w (w.alloc (.cells #[.int .i64 1, .string n, .string t, .string o] 41))) := (Below.refl _ _).alloc (Nat.le_refl _) _
        clear ho0 ht0
        go_enter Try.func52, Try.ntmps52
        go_wp2_with fail
        go_ret
        exact ⟨rfl, HSH.out.keep HB.out, HB.out.mono hBw⟩
    · rw [doA_wrong (.inl ⟨k1, ht0⟩)]
      have HB : Hid (Below w.heap.size w (w.alloc (.cells #[.int .i64 k, .string n, .string t, .string o] 41))) := (Below.refl _ _).alloc (Nat.le_refl _) _
      have k1' : (k != 1) = true := by simpa using k1
      clear ht0 k1
      go_enter Try.func52, Try.ntmps52
      go_wp2_with fail
      go_ret
      exact ⟨rfl, HSH.out.keep HB.out, HB.out.mono hBw⟩
end Go.Proofs.Ytkkpddcncpdnpaa
