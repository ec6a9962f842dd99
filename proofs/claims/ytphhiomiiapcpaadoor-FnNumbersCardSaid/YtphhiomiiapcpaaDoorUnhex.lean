/- The walks of the two Unhex. -/
import Derived.Test.YtphhiomiiapcpaaDoorUnhexM
import Derived.Test.YtphhiomiiapcpaaDoorShelf
import Derived.OwnWalk
namespace Go.Proofs.YtphhiomiiapcpaaDoor
open Go.RowKit
open Go.PlainAid (bt)

def uhV : Option (List UInt8) → Value
  | none => .tuple #[.string ⟨#[]⟩, .bool false]
  | some l => .tuple #[.string ⟨l.toArray⟩, .bool true]
theorem uhV_form : ∀ x, ∃ (t : ByteArray) (b : Bool), uhV x = .tuple #[.string t, .bool b]
  | none => ⟨⟨#[]⟩, false, rfl⟩
  | some l => ⟨⟨l.toArray⟩, true, rfl⟩

theorem index_any (x : Int) (w : World) (h0 : 0 ≤ x) (h1 : x ≤ 255) :
    Calls Tryd.prog 23 #[.string ⟨#[48, 49, 50, 51, 52, 53, 54, 55, 56, 57, 97, 98, 99, 100, 101, 102]⟩, .int .u8 x] w fun e w' => e = .returned (.int .i64 (W.hvI x)) ∧ w' = w := by
  refine (Tryd.strings_IndexByte _ x w).mono ?_
  rintro e w' ⟨rfl, rfl⟩
  refine ⟨?_, rfl⟩
  have := W.fig_index x.toNat (by omega)
  have e : ((x.toNat : Nat) : Int) = x := by omega
  rw [e] at this
  rw [← this]

set_option maxHeartbeats 1000000 in
theorem implUnhex_yes (s : ByteArray) (w : World) (hs : s.size ≤ 40000) (he : s.size % 2 = 0) :
    Calls Tryd.prog 14 #[.string s] w fun e w' => e = .returned (uhV (W.unh s.data.toList)) ∧ Below w.heap.size w w' := by
  obtain ⟨i0, hi, hz0, hz1, hz2⟩ := info_parts Tryd.info5
  have hb := Go.PlainAid.get_bt s
  have hsd : decide ((40000 : Int) < s.size) = false := by simp; omega
  have hed : (((s.size : Int) % 2) != 0) = false := by simp; omega
  go_enter Tryd.func14, Tryd.ntmps14
  go_wp2_with (at_make; refine wpList_make_own _ rfl _ _ 22 rfl w.heap.size 5 i0 (.int .u8 0) 1 Tryd.underlying22 hi hz0 hz1 .i64 .i64 _ (s.size / 2) rfl rfl (by omega) ?b2 ?b3 ?b4 ?_)
  case b2 => rw [hz2]; omega
  case b3 => unfold maxLen; omega
  case b4 => omega
  intro wm hownm hgrm
  have hbm : Below w.heap.size w wm := (Below.refl _ _).grown hgrm (Nat.le_refl _) (fun j hj => by simp at hj)
  go_wp2_with fail
  go_loopw [4, 5] (fun v i wr => ∃ (j : Nat) (l : List UInt8), i = .int .i64 j ∧ W.UhRel s j l ∧ wr.ownsRow w.heap.size 5 1 v l.length (bv l) ∧ Below w.heap.size w wr) (fun _ i _ => s.size - (intOf i).toNat)
  case atStart => exact ⟨0, [], rfl, W.UhRel.start s, hownm, hbm⟩
  case round =>
    obtain ⟨j, l, rfl, hr, hown, hbl⟩ := hrel
    have hB := hbl.size
    have hj1 := hr.2.1
    have hj2 := hr.2.2
    clear hownm hgrm hbm
    by_cases hlt : j < s.size
    · have hlt1 : j + 1 < s.size := by omega
      have HJ : Hid (j = 2 * l.length) := hj1
      have hl20 : l.length ≤ 20000 := by omega
      clear hj1 he
      have b0 := Go.PlainAid.bt_nonneg s j
      have b1 := Go.PlainAid.bt_le s j
      have b2 := Go.PlainAid.bt_nonneg s (j + 1)
      have b3 := Go.PlainAid.bt_le s (j + 1)
      have v0 := W.hvI_bd (bt s j)
      have v1 := W.hvI_bd (bt s (j + 1))
      by_cases h1 : W.hvI (bt s j) < 0
      · have HR : Hid (W.unh s.data.toList = none) := hr.bad hlt1 (.inl h1)
        go_wp2_with (go_at_call 23; refine (index_any _ _ ?_ ?_).mono ?_; (omega); (omega); rintro e w' ⟨rfl, rfl⟩)
        go_ret2
        exact ⟨by rw [HR.out]; rfl, hbl⟩
      · by_cases h2 : W.hvI (bt s (j + 1)) < 0
        · have HR : Hid (W.unh s.data.toList = none) := hr.bad hlt1 (.inr h2)
          go_wp2_with (go_at_call 23; refine (index_any _ _ ?_ ?_).mono ?_; (omega); (omega); rintro e w' ⟨rfl, rfl⟩)
          go_ret2
          exact ⟨by rw [HR.out]; rfl, hbl⟩
        · have hn := hr.next hlt1 (by omega) (by omega)
          have HN : Hid _ := hn
          clear hn hr
          go_wp2_with (first | (go_at_call 23; refine (index_any _ _ ?_ ?_).mono ?_; (omega); (omega); rintro e w' ⟨rfl, rfl⟩) | (at_builtin; refine wpList_append_own _ rfl _ _ 22 rfl w.heap.size 5 i0 (.int .u8 0) 1 1 Tryd.underlying22 hi hz0 hz1 hz2 rfl (by decide) _ _ _ rfl (hown.alloc _) ⟨_, 0, none⟩ 1 1 [.int .u8 _] rfl rfl (cell_one_new _ _ _) ?c2 ?c3 ?c4 ?c5 ?_))
          case c2 => intro u hu; simp at hu; subst hu; rfl
          case c3 => unfold maxLen; omega
          case c4 => omega
          case c5 => simp; omega
          · intro v' w1 hown' hgrow _
            obtain ⟨g1, g2⟩ := unhex_own hB (by omega) (by omega) hown hbl hown' hgrow
            clear hown' hgrow hown
            go_wp2
            go_roundw
            case rel => exact ⟨j + 2, _, by go_num, HN.out, g1, g2⟩
            case measure => simp [intOf]; omega
    · have HR : Hid (W.unh s.data.toList = some l) := hr.fin (by omega)
      have hc := own_string hown
      clear hj1
      go_wp2
      go_ret2
      exact ⟨by rw [HR.out]; rfl, hbl⟩

theorem implUnhex_no (s : ByteArray) (w : World) (hs : 40000 < s.size ∨ s.size % 2 = 1) :
    Calls Tryd.prog 14 #[.string s] w fun e w' => e = .returned (.tuple #[.string ⟨#[]⟩, .bool false]) ∧ Below w.heap.size w w' := by
  by_cases h : s.size % 2 = 1
  · have hed : (((s.size : Int) % 2) != 0) = true := by rw [bne_iff_ne]; omega
    go_enter Tryd.func14, Tryd.ntmps14
    go_wp2_with fail
    go_ret2
    exact ⟨rfl, Below.refl _ _⟩
  · have hed : (((s.size : Int) % 2) != 0) = false := by simp; omega
    have h2 : 40000 < s.size := by omega
    clear h hs
    go_enter Tryd.func14, Tryd.ntmps14
    go_wp2_with fail
    go_ret2
    exact ⟨rfl, Below.refl _ _⟩
end Go.Proofs.YtphhiomiiapcpaaDoor
