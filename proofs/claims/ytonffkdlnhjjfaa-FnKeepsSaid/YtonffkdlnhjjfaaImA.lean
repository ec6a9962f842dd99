/- The program's own walks over a disk: whether it is right, what a file holds, whether all is kept. -/
import Derived.Test.YtonffkdlnhjjfaaDiskM
import Derived.Test.YtonffkdlnhjjfaaShelf
import Derived.Sort.KeysCollected
import Derived.Sort.Walk0
namespace Go.Proofs.Ytonffkdlnhjjfaa
open Go.RowKit
attribute [local go_sem ↓] Go.wp_at_zero Go.wp_at_succ

theorem fileNameOk_any (s : ByteArray) (w : World) :
    Calls Try.prog 30 #[.string s] w fun e w' => e = .returned (.bool (decide (1 ≤ s.size ∧ s.size ≤ 8))) ∧ w' = w := by
  by_cases h1 : 1 ≤ s.size
  · by_cases h2 : s.size ≤ 8
    · have e : decide (1 ≤ s.size ∧ s.size ≤ 8) = true := by simp; omega
      rw [e]
      have h1' : (1 : Int) ≤ (s.size : Int) := by omega
      have h2' : (s.size : Int) ≤ 8 := by omega
      go_enter Try.func30, Try.ntmps30
      go_wp2_with fail
      go_ret
      exact ⟨rfl, rfl⟩
    · have e : decide (1 ≤ s.size ∧ s.size ≤ 8) = false := by simp; omega
      rw [e]
      have h1' : (1 : Int) ≤ (s.size : Int) := by omega
      have h2' : ¬ (s.size : Int) ≤ 8 := by omega
      go_enter Try.func30, Try.ntmps30
      go_wp2_with fail
      go_ret
      exact ⟨rfl, rfl⟩
  · have e : decide (1 ≤ s.size ∧ s.size ≤ 8) = false := by simp; omega
    rw [e]
    have h1' : ¬ (1 : Int) ≤ (s.size : Int) := by omega
    go_enter Try.func30, Try.ntmps30
    go_wp2_with fail
    go_ret
    exact ⟨rfl, rfl⟩
theorem fileNameOk_is (s : ByteArray) (w : World) (b : Bool) (h : decide (1 ≤ s.size ∧ s.size ≤ 8) = b) : Calls Try.prog 30 #[.string s] w fun e w' => e = .returned (.bool b) ∧ w' = w := by
  have := fileNameOk_any s w
  rwa [h] at this
/-- Texts are less, alike, or more. -/
theorem less_iff (a b : List UInt8) : Op.bytesLess a b = !(Op.bytesLess b a || b == a) := by
  rw [bytesLess_eq, bytesLess_eq]
  by_cases h : a < b
  · have h1 : ¬ b < a := List.lt_asymm h
    have h2 : b ≠ a := fun e => by subst e; exact List.lt_irrefl _ h
    simp [h, h1, h2]
  · by_cases h2 : b = a
    · subst h2; simp [List.lt_irrefl]
    · have h3 : b < a := by
        by_cases h4 : b < a
        · exact h4
        · exact absurd (List.le_antisymm (List.not_lt.1 h) (List.not_lt.1 h4)) h2
      simp [h, h3]
set_option maxHeartbeats 2000000 in
theorem implDiskOk : ImplDiskOk := by
  intro a fs cap w hr hf hl
  have hb0 : Below w.heap.size w (w.alloc (.cells #[.slice a fs.length cap] 26)) := (Below.refl _ _).alloc (Nat.le_refl _) _
  by_cases h30 : 30 < fs.length
  · rw [dOkB_no (fun h => by have := h.1; omega)]
    have h30' : (30 : Int) < (fs.length : Int) := by omega
    clear hr hf
    go_enter Try.func12, Try.ntmps12
    go_wp2_with fail
    go_ret
    exact ⟨rfl, hb0⟩
  · have h30' : ¬ (30 : Int) < (fs.length : Int) := by omega
    have HR : Hid (FRow w a fs) := hr
    have HF : Hid (FFit fs) := hf
    have hbox := wcells_new w #[.slice a fs.length cap] 26
    have HX : Hid (WCells (w.alloc (.cells #[.slice a fs.length cap] 26)) w.heap.size [.slice a fs.length cap]) := hbox
    have HB0 : Hid (Below w.heap.size w (w.alloc (.cells #[.slice a fs.length cap] 26))) := hb0
    clear hr hf hbox hb0
    generalize hO : dOkB fs = O
    have HO : Hid (dOkB fs = O) := hO
    clear hO
    go_enter Try.func12, Try.ntmps12
    go_wp2_with fail
    go_loopw [12] (fun i wr => ∃ (k : Nat), i = .int .i64 k ∧ k ≤ fs.length ∧ (∀ j, j < k → FAt fs j) ∧ WCells wr w.heap.size [.slice a fs.length cap] ∧ Below w.heap.size w wr) (fun i _ => fs.length - (intOf i).toNat)
    case atStart => exact ⟨0, rfl, Nat.zero_le _, fun j hj => by omega, HX.out, HB0.out⟩
    case round =>
      obtain ⟨k, rfl, hk, hgood, hx, hb⟩ := hrel
      have HGD : Hid (∀ j, j < k → FAt fs j) := hgood
      have x0 := (hx.2 0 _ rfl).1
      by_cases hlt : k < fs.length
      · obtain ⟨b, off, rfl, lb, hc⟩ := FRow.at (HR.out.stays hb) (by omega)
        obtain ⟨d0, d1, d2⟩ := hc k hlt
        obtain ⟨f, hfe⟩ : ∃ f, f = fs[k] := ⟨_, rfl⟩
        rw [← hfe] at d0 d1 d2
        have HFE : Hid (fs.getD k default = f) := (getD_at fs k hlt).trans hfe.symm
        have k0 : (0 : Int) ≤ (k : Int) := by omega
        have k1 : (k : Int) < (fs.length : Int) := by omega
        have hbx : Below w.heap.size w (wr.alloc (.cells #[.string f.name, .string f.text, .int .i64 f.kept] 36)) := hb.alloc hb.size _
        have HBX : Hid (Below w.heap.size w (wr.alloc (.cells #[.string f.name, .string f.text, .int .i64 f.kept] 36))) := hbx
        have hxx := hx.alloc (.cells #[.string f.name, .string f.text, .int .i64 f.kept] 36)
        have HXX : Hid (WCells (wr.alloc (.cells #[.string f.name, .string f.text, .int .i64 f.kept] 36)) w.heap.size [.slice (some ⟨b, off, none⟩) fs.length cap]) := hxx
        have y0 := (hxx.2 0 _ rfl).1
        have HXN : ∀ q, WCells ((wr.alloc (.cells #[.string f.name, .string f.text, .int .i64 f.kept] 36)).drewN q) w.heap.size [.slice (some ⟨b, off, none⟩) fs.length cap] := fun q => hxx
        have HBN : ∀ q, Below w.heap.size w ((wr.alloc (.cells #[.string f.name, .string f.text, .int .i64 f.kept] 36)).drewN q) := fun q => hbx.trans ⟨rfl, rfl, rfl, Nat.le_refl _, fun _ _ => rfl⟩
        have lb' : b < wr.heap.size := lb
        clear hfe hbx hxx hx
        by_cases hA : decide (1 ≤ f.name.size ∧ f.name.size ≤ 8) = true
        · by_cases hD : 0 < k → Op.bytesLess (fs.getD (k - 1) default).name.toList f.name.toList = true
          · have HD : Hid (0 < k → Op.bytesLess (fs.getD (k - 1) default).name.toList f.name.toList = true) := hD
            by_cases hB : f.text.size ≤ 20000 ∧ 0 ≤ f.kept ∧ f.kept ≤ (f.text.size : Int)
            · have hB' : ¬ (20000 : Int) < (f.text.size : Int) := by omega
              have hB2 : ¬ f.kept < 0 := by omega
              have hB3 : ¬ (f.text.size : Int) < f.kept := by omega
              have HBB : Hid (f.text.size ≤ 20000 ∧ 0 ≤ f.kept ∧ f.kept ≤ (f.text.size : Int)) := hB
              clear hB
              by_cases hk0 : 0 < k
              · obtain ⟨p0, p1, p2⟩ := hc (k - 1) (by omega)
                obtain ⟨f1, hf1⟩ : ∃ f1, f1 = fs[k - 1] := ⟨_, rfl⟩
                rw [← hf1] at p0
                have HF1 : Hid (fs.getD (k - 1) default = f1) := (getD_at fs (k - 1) (by omega)).trans hf1.symm
                have q0 : (wr.alloc (.cells #[.string f.name, .string f.text, .int .i64 f.kept] 36)).cell? ⟨b, off + (k - 1) * 3, none⟩ = some (.string f1.name) := (((Below.refl _ _).alloc (Nat.le_refl _) _ : Below wr.heap.size wr (wr.alloc (.cells #[.string f.name, .string f.text, .int .i64 f.kept] 36))).cell (p := ⟨b, off + (k - 1) * 3, none⟩) lb').trans p0
                have hkp : (0 : Int) < (k : Int) := by omega
                have hk1 : (k : Int) - 1 = ((k - 1 : Nat) : Int) := by omega
                have hk2 : (0 : Int) ≤ ((k - 1 : Nat) : Int) := by omega
                have hk3 : ((k - 1 : Nat) : Int) < (fs.length : Int) := by omega
                have hle : (Op.bytesLess f.name.toList f1.name.toList || f.name.toList == f1.name.toList) = false := by
                  have h2 := hD hk0
                  rw [HF1.out, less_iff] at h2
                  simpa using h2
                clear hc hf1 p0 p1 p2 hD
                go_wp2_with fail
                go_quiet (first
                  | (go_at_call 30; exact Calls.quiet_of_same (fileNameOk_is _ _ true hA)))
                go_wp2_with fail
                go_roundw
                case rel => exact ⟨k + 1, by go_num, by omega, fun j hj => by rcases Nat.lt_succ_iff_lt_or_eq.1 hj with h | h; exact HGD.out j h; subst h; exact ⟨by rw [HFE.out]; exact ⟨of_decide_eq_true hA, HBB.out.1, HBB.out.2.1, HBB.out.2.2⟩, fun h => by rw [HFE.out]; exact HD.out h⟩, HXN _, HBN _⟩
                case measure => simp [intOf]; omega
              · have hkn : decide ((0 : Int) < (k : Int)) = false := by simp; omega
                clear hc hD
                go_wp2_with fail
                go_quiet (first
                  | (go_at_call 30; exact Calls.quiet_of_same (fileNameOk_is _ _ true hA)))
                go_wp2_with fail
                go_roundw
                case rel => exact ⟨k + 1, by go_num, by omega, fun j hj => by rcases Nat.lt_succ_iff_lt_or_eq.1 hj with h | h; exact HGD.out j h; subst h; exact ⟨by rw [HFE.out]; exact ⟨of_decide_eq_true hA, HBB.out.1, HBB.out.2.1, HBB.out.2.2⟩, fun h => absurd h hk0⟩, HXN _, HBN _⟩
                case measure => simp [intOf]; omega
            · have HE : Hid (O = false) := HO.out.symm.trans (dOkB_no (fun h => hB (by have h2 := (h.2 k hlt).1; rw [HFE.out] at h2; exact ⟨h2.2.1, h2.2.2.1, h2.2.2.2⟩)))
              by_cases hk0 : 0 < k
              · obtain ⟨p0, p1, p2⟩ := hc (k - 1) (by omega)
                obtain ⟨f1, hf1⟩ : ∃ f1, f1 = fs[k - 1] := ⟨_, rfl⟩
                rw [← hf1] at p0
                have HF1 : Hid (fs.getD (k - 1) default = f1) := (getD_at fs (k - 1) (by omega)).trans hf1.symm
                have q0 : (wr.alloc (.cells #[.string f.name, .string f.text, .int .i64 f.kept] 36)).cell? ⟨b, off + (k - 1) * 3, none⟩ = some (.string f1.name) := (((Below.refl _ _).alloc (Nat.le_refl _) _ : Below wr.heap.size wr (wr.alloc (.cells #[.string f.name, .string f.text, .int .i64 f.kept] 36))).cell (p := ⟨b, off + (k - 1) * 3, none⟩) lb').trans p0
                have hkp : (0 : Int) < (k : Int) := by omega
                have hk1 : (k : Int) - 1 = ((k - 1 : Nat) : Int) := by omega
                have hk2 : (0 : Int) ≤ ((k - 1 : Nat) : Int) := by omega
                have hk3 : ((k - 1 : Nat) : Int) < (fs.length : Int) := by omega
                have hle : (Op.bytesLess f.name.toList f1.name.toList || f.name.toList == f1.name.toList) = false := by
                  have h2 := hD hk0
                  rw [HF1.out, less_iff] at h2
                  simpa using h2
                clear hc hf1 p0 p1 p2 hD
                rcases (by omega : (20000 : Int) < (f.text.size : Int) ∨ (¬ (20000 : Int) < (f.text.size : Int) ∧ f.kept < 0) ∨ (¬ (20000 : Int) < (f.text.size : Int) ∧ ¬ f.kept < 0 ∧ (f.text.size : Int) < f.kept)) with c1 | ⟨c1, c2⟩ | ⟨c1, c2, c3⟩
                all_goals
                  clear hB
                  go_wp2_with fail
                  go_quiet (first
                    | (go_at_call 30; exact Calls.quiet_of_same (fileNameOk_is _ _ true hA)))
                  go_wp2_with fail
                  go_ret
                  exact ⟨congrArg (fun b => Ending.returned (.bool b)) HE.out.symm, HBN _⟩
              · have hkn : decide ((0 : Int) < (k : Int)) = false := by simp; omega
                clear hc hD
                rcases (by omega : (20000 : Int) < (f.text.size : Int) ∨ (¬ (20000 : Int) < (f.text.size : Int) ∧ f.kept < 0) ∨ (¬ (20000 : Int) < (f.text.size : Int) ∧ ¬ f.kept < 0 ∧ (f.text.size : Int) < f.kept)) with c1 | ⟨c1, c2⟩ | ⟨c1, c2, c3⟩
                all_goals
                  clear hB
                  go_wp2_with fail
                  go_quiet (first
                    | (go_at_call 30; exact Calls.quiet_of_same (fileNameOk_is _ _ true hA)))
                  go_wp2_with fail
                  go_ret
                  exact ⟨congrArg (fun b => Ending.returned (.bool b)) HE.out.symm, HBN _⟩
          · have HE : Hid (O = false) := HO.out.symm.trans (dOkB_no (fun h => hD (fun hk0 => by have h2 := (h.2 k hlt).2 hk0; rw [HFE.out] at h2; exact h2)))
            have hk0 : 0 < k := by
              by_cases h : 0 < k
              · exact h
              · exact absurd (fun h' => absurd h' h) hD
            obtain ⟨p0, p1, p2⟩ := hc (k - 1) (by omega)
            obtain ⟨f1, hf1⟩ : ∃ f1, f1 = fs[k - 1] := ⟨_, rfl⟩
            rw [← hf1] at p0
            have HF1 : Hid (fs.getD (k - 1) default = f1) := (getD_at fs (k - 1) (by omega)).trans hf1.symm
            have q0 : (wr.alloc (.cells #[.string f.name, .string f.text, .int .i64 f.kept] 36)).cell? ⟨b, off + (k - 1) * 3, none⟩ = some (.string f1.name) := (((Below.refl _ _).alloc (Nat.le_refl _) _ : Below wr.heap.size wr (wr.alloc (.cells #[.string f.name, .string f.text, .int .i64 f.kept] 36))).cell (p := ⟨b, off + (k - 1) * 3, none⟩) lb').trans p0
            have hkp : (0 : Int) < (k : Int) := by omega
            have hk1 : (k : Int) - 1 = ((k - 1 : Nat) : Int) := by omega
            have hk2 : (0 : Int) ≤ ((k - 1 : Nat) : Int) := by omega
            have hk3 : ((k - 1 : Nat) : Int) < (fs.length : Int) := by omega
            have hle : (Op.bytesLess f.name.toList f1.name.toList || f.name.toList == f1.name.toList) = true := by
              have h2 : ¬ Op.bytesLess (fs.getD (k - 1) default).name.toList f.name.toList = true := fun h => hD (fun _ => h)
              rw [HF1.out, less_iff] at h2
              cases hX : (Op.bytesLess f.name.toList f1.name.toList || f.name.toList == f1.name.toList) with
              | true => rfl
              | false => rw [hX] at h2; exact absurd rfl h2
            clear hc hf1 p0 p1 p2 hD
            go_wp2_with fail
            go_quiet (first
              | (go_at_call 30; exact Calls.quiet_of_same (fileNameOk_is _ _ true hA)))
            go_wp2_with fail
            go_ret
            exact ⟨congrArg (fun b => Ending.returned (.bool b)) HE.out.symm, HBN _⟩
        · replace hA : decide (1 ≤ f.name.size ∧ f.name.size ≤ 8) = false := by simpa using hA
          clear hc
          go_wp2_with fail
          go_quiet (first
            | (go_at_call 30; exact Calls.quiet_of_same (fileNameOk_is _ _ false hA)))
          go_wp2_with fail
          go_ret
          exact ⟨congrArg (fun b => Ending.returned (.bool b)) ((HO.out.symm.trans (dOkB_no (fun h => of_decide_eq_false hA (by have h2 := (h.2 k hlt).1; rw [HFE.out] at h2; exact h2.1)))).symm), HBN _⟩
      · have e : k = fs.length := by omega
        subst e
        go_wp2_with fail
        go_ret
        exact ⟨congrArg (fun b => Ending.returned (.bool b)) ((HO.out.symm.trans (dOkB_yes ⟨by omega, fun j hj => HGD.out j (by omega)⟩)).symm), hb⟩
theorem fsum_mem {fs : List FM} {f : FM} (h : f ∈ fs) : f.name.size + f.text.size ≤ fsum fs := by
  induction fs with
  | nil => simp at h
  | cons g fs ih =>
    simp only [fsum]
    rcases List.mem_cons.1 h with rfl | h
    · omega
    · have := ih h; omega
theorem clone_any (s : ByteArray) (w : World) (h : s.size ≤ 281474976710656) : Calls Try.prog 39 #[.string s] w fun e w' => e = .returned (.string s) ∧ Below w.heap.size w w' := by
  go_enter Try.func39, Try.ntmps39
  go_wp2_with fail
  refine (Try.stringslite_Clone s _ h).mono ?_
  rintro e w1 ⟨rfl, hb⟩
  go_wp2_with fail
  go_ret
  exact ⟨rfl, hb⟩
set_option maxHeartbeats 1000000 in
theorem implFileAt : ImplFileAt := by
  intro a fs cap n w hr hf hl hfs hn
  have HR : Hid (FRow w a fs) := hr
  have HFS : Hid (fsum fs ≤ 1048576) := hfs
  have HX : Hid (WCells (w.alloc (.cells #[.slice a fs.length cap] 26)) w.heap.size [.slice a fs.length cap]) := wcells_new w #[.slice a fs.length cap] 26
  have HB0 : Hid (Below w.heap.size w (w.alloc (.cells #[.slice a fs.length cap] 26))) := (Below.refl _ _).alloc (Nat.le_refl _) _
  generalize hO : fileV fs n = O
  have HO : Hid (fileV fs n = O) := hO
  clear hr hf hfs hO
  go_enter Try.func18, Try.ntmps18
  go_wp2_with fail
  go_loopw [11] (fun i wr => ∃ (k : Nat), i = .int .i64 k ∧ k ≤ fs.length ∧ (∀ j, j < k → (fs.getD j default).name ≠ n) ∧ Below w.heap.size w wr) (fun i _ => fs.length - (intOf i).toNat)
  case atStart => exact ⟨0, rfl, Nat.zero_le _, fun j hj => by omega, HB0.out⟩
  case round =>
    obtain ⟨k, rfl, hk, hno, hb⟩ := hrel
    have HN : Hid (∀ j, j < k → (fs.getD j default).name ≠ n) := hno
    have HB : Hid (Below w.heap.size w wr) := hb
    clear hno
    by_cases hlt : k < fs.length
    · obtain ⟨b, off, rfl, lb, hc⟩ := FRow.at (HR.out.stays hb) (by omega)
      obtain ⟨d0, d1, d2⟩ := hc k hlt
      obtain ⟨f, hfe⟩ : ∃ f, f = fs[k] := ⟨_, rfl⟩
      rw [← hfe] at d0 d1 d2
      have HFE : Hid (fs.getD k default = f) := (getD_at fs k hlt).trans hfe.symm
      have hsz : f.text.size ≤ 281474976710656 := by have := fsum_mem (fs := fs) (f := f) (by rw [hfe]; exact List.getElem_mem hlt); have := HFS.out; omega
      have k0 : (0 : Int) ≤ (k : Int) := by omega
      have k1 : (k : Int) < (fs.length : Int) := by omega
      have HBX : Hid (Below w.heap.size w (wr.alloc (.cells #[.string f.name, .string f.text, .int .i64 f.kept] 36))) := hb.alloc hb.size _
      clear hfe hb hc
      by_cases hn : f.name = n
      · have HNE : Hid (f.name = n) := hn
        have hq : (f.name.toList == n.toList) = true := by rw [hn]; simp
        clear hn
        go_wp2_with fail
        refine (clone_any f.text _ hsz).mono ?_
        rintro e w1 ⟨rfl, hb1⟩
        have HE : Hid (O = .tuple #[.string f.text, .bool true]) := by
          have := fileV_some (n := n) hlt (by rw [HFE.out]; exact HNE.out) HN.out
          rw [HFE.out] at this
          exact HO.out.symm.trans this
        have HBY : Hid (Below w.heap.size w w1) := HBX.out.trans (hb1.mono HBX.out.size)
        clear hb1
        go_wp2_with fail
        go_ret2
        exact ⟨congrArg Ending.returned HE.out.symm, HBY.out⟩
      · have hq := str_ne hn
        have HNE : Hid (f.name ≠ n) := hn
        clear hn
        go_wp2_with fail
        go_roundw
        case rel => exact ⟨k + 1, by go_num, by omega, fun j hj => by rcases Nat.lt_succ_iff_lt_or_eq.1 hj with h | h; exact HN.out j h; subst h; rw [HFE.out]; exact HNE.out, HBX.out⟩
        case measure => simp [intOf]; omega
    · have e : k = fs.length := by omega
      subst e
      have HE : Hid (O = .tuple #[.string ⟨#[]⟩, .bool false]) := HO.out.symm.trans (fileV_none (fun f hf => by
        obtain ⟨j, hj, rfl⟩ := List.getElem_of_mem hf
        rw [← getD_at fs j hj]
        exact HN.out j hj))
      clear hb
      go_wp2_with fail
      go_ret2
      exact ⟨congrArg Ending.returned HE.out.symm, HB.out⟩
theorem allKept_any (f : FM) (w : World) : Calls Try.prog 29 #[fv f] w fun e w' => e = .returned (.bool (decide (f.kept = (f.text.size : Int)))) ∧ Below w.heap.size w w' := by
  by_cases h : f.kept = (f.text.size : Int)
  · have hb : Below w.heap.size w (w.alloc (.cells #[.string f.name, .string f.text, .int .i64 f.kept] 36)) := (Below.refl _ _).alloc (Nat.le_refl _) _
    have HB : Hid (Below w.heap.size w (w.alloc (.cells #[.string f.name, .string f.text, .int .i64 f.kept] 36))) := hb
    have e : decide (f.kept = (f.text.size : Int)) = true := decide_eq_true h
    rw [e]
    have he : (f.kept == (f.text.size : Int)) = true := by simpa using h
    clear hb e h
    go_enter Try.func29, Try.ntmps29
    go_wp2_with fail
    go_ret
    exact ⟨rfl, HB.out⟩
  · have hb : Below w.heap.size w (w.alloc (.cells #[.string f.name, .string f.text, .int .i64 f.kept] 36)) := (Below.refl _ _).alloc (Nat.le_refl _) _
    have HB : Hid (Below w.heap.size w (w.alloc (.cells #[.string f.name, .string f.text, .int .i64 f.kept] 36))) := hb
    have e : decide (f.kept = (f.text.size : Int)) = false := decide_eq_false h
    rw [e]
    have he : (f.kept == (f.text.size : Int)) = false := by simpa using h
    clear hb e h
    go_enter Try.func29, Try.ntmps29
    go_wp2_with fail
    go_ret
    exact ⟨rfl, HB.out⟩
set_option maxHeartbeats 1000000 in
theorem implAllKept : ImplAllKept := by
  intro a fs cap w hr hf hl
  have HR : Hid (FRow w a fs) := hr
  have HF : Hid (FFit fs) := hf
  have HX : Hid (WCells (w.alloc (.cells #[.slice a fs.length cap] 26)) w.heap.size [.slice a fs.length cap]) := wcells_new w #[.slice a fs.length cap] 26
  have HB0 : Hid (Below w.heap.size w (w.alloc (.cells #[.slice a fs.length cap] 26))) := (Below.refl _ _).alloc (Nat.le_refl _) _
  generalize hO : akB fs = O
  have HO : Hid (akB fs = O) := hO
  clear hr hf hO
  go_enter Try.func11, Try.ntmps11
  go_wp2_with fail
  go_loopw [8] (fun i wr => ∃ (k : Nat), i = .int .i64 k ∧ k ≤ fs.length ∧ (∀ j, j < k → (fs.getD j default).kept = ((fs.getD j default).text.size : Int)) ∧ WCells wr w.heap.size [.slice a fs.length cap] ∧ Below w.heap.size w wr) (fun i _ => fs.length - (intOf i).toNat)
  case atStart => exact ⟨0, rfl, Nat.zero_le _, fun j hj => by omega, HX.out, HB0.out⟩
  case round =>
    obtain ⟨k, rfl, hk, hall, hx, hb⟩ := hrel
    have HN : Hid (∀ j, j < k → (fs.getD j default).kept = ((fs.getD j default).text.size : Int)) := hall
    have HB : Hid (Below w.heap.size w wr) := hb
    have x0 := (hx.2 0 _ rfl).1
    have HXX : Hid (WCells wr w.heap.size [.slice a fs.length cap]) := hx
    clear hall hx
    by_cases hlt : k < fs.length
    · obtain ⟨b, off, rfl, lb, hc⟩ := FRow.at (HR.out.stays hb) (by omega)
      obtain ⟨d0, d1, d2⟩ := hc k hlt
      obtain ⟨f, hfe⟩ : ∃ f, f = fs[k] := ⟨_, rfl⟩
      rw [← hfe] at d0 d1 d2
      have HFE : Hid (fs.getD k default = f) := (getD_at fs k hlt).trans hfe.symm
      have k0 : (0 : Int) ≤ (k : Int) := by omega
      have k1 : (k : Int) < (fs.length : Int) := by omega
      have HBX : Hid (Below w.heap.size w (wr.alloc (.cells #[.string f.name, .string f.text, .int .i64 f.kept] 36))) := hb.alloc hb.size _
      have HXY : Hid (WCells (wr.alloc (.cells #[.string f.name, .string f.text, .int .i64 f.kept] 36)) w.heap.size [.slice (some ⟨b, off, none⟩) fs.length cap]) := HXX.out.alloc _
      clear hfe hb hc
      go_wp2_with fail
      refine (allKept_any f _).mono ?_
      generalize hD : decide (f.kept = (f.text.size : Int)) = D
      rintro e w1 ⟨rfl, hb1⟩
      have HBY : Hid (Below w.heap.size w w1) := HBX.out.trans (hb1.mono HBX.out.size)
      have HXZ : Hid (WCells w1 w.heap.size [.slice (some ⟨b, off, none⟩) fs.length cap]) := HXY.out.grow hb1
      clear hb1
      cases D with
      | false =>
        have HE : Hid (O = false) := HO.out.symm.trans (akB_no fun h => by
          have h1 := h.2 k hlt
          have h2 := (h.1.2 k hlt).1.2.2.2
          rw [HFE.out] at h1 h2
          exact of_decide_eq_false hD (by omega))
        clear hD
        go_wp2_with fail
        go_ret
        exact ⟨congrArg (fun b => Ending.returned (.bool b)) HE.out.symm, HBY.out⟩
      | true =>
        have HE : Hid (f.kept = (f.text.size : Int)) := (of_decide_eq_true hD : f.kept = (f.text.size : Int))
        clear hD
        go_wp2_with fail
        go_roundw
        case rel => exact ⟨k + 1, by go_num, by omega, fun j hj => by rcases Nat.lt_succ_iff_lt_or_eq.1 hj with h | h; exact HN.out j h; subst h; rw [HFE.out]; exact HE.out, HXZ.out, HBY.out⟩
        case measure => simp [intOf]; omega
    · have e : k = fs.length := by omega
      subst e
      have HRW : Hid (FRow wr a fs) := HR.out.stays hb
      clear hb
      go_wp2_with fail
      refine (implDiskOk a fs cap _ HRW.out HF.out hl).mono ?_
      generalize hD : dOkB fs = D
      rintro e w1 ⟨rfl, hb1⟩
      have HE : Hid (O = D) := by
        refine HO.out.symm.trans ?_
        by_cases h : DOk fs
        · rw [← hD, dOkB_yes h]
          exact akB_yes ⟨h, fun j hj => by rw [HN.out j hj]; exact Int.le_refl _⟩
        · rw [← hD, dOkB_no h]
          exact akB_no fun h' => h h'.1
      have HBY : Hid (Below w.heap.size w w1) := HB.out.trans (hb1.mono HB.out.size)
      clear hb1 hD
      go_wp2_with fail
      go_ret
      exact ⟨congrArg (fun b => Ending.returned (.bool b)) HE.out.symm, HBY.out⟩
end Go.Proofs.Ytonffkdlnhjjfaa
