/- The walk of the model's PartsOf. -/
import Derived.Test.YtphhiomiiapcpaiDoorPartsM
import Derived.Test.YtphhiomiiapcpaiDoorStrsB
namespace Go.Proofs.YtphhiomiiapcpaiDoor
open Go.RowKit
open Go.PlainAid (bt)

def mkB (l : List UInt8) : ByteArray := ⟨l.toArray⟩
/-- What PartsOf answers: the parts and true; or nothing and false. -/
def PartsIs (s : ByteArray) (xs : List ByteArray) (b : Bool) : Prop :=
  (b = true ∧ s.size ≤ 600 ∧ W.printable s ∧ (Lib.fields s.data.toList).length ≤ 10 ∧ xs = (Lib.fields s.data.toList).map mkB) ∨
  (b = false ∧ xs = [] ∧ (600 < s.size ∨ ¬ W.printable s ∨ 10 < (Lib.fields s.data.toList).length))
theorem PartsIs.one {s : ByteArray} {xs ys : List ByteArray} {b c : Bool} (h : PartsIs s xs b) (k : PartsIs s ys c) : xs = ys ∧ b = c := by
  rcases h with ⟨rfl, h1, h2, h3, rfl⟩ | ⟨rfl, rfl, h⟩ <;> rcases k with ⟨rfl, k1, k2, k3, rfl⟩ | ⟨rfl, rfl, k⟩
  · exact ⟨rfl, rfl⟩
  · rcases k with k | k | k
    · omega
    · exact absurd h2 k
    · omega
  · rcases h with h | h | h
    · omega
    · exact absurd k2 h
    · omega
  · exact ⟨rfl, rfl⟩
/-- Where the answer lies: nowhere where it is empty; else in a row from B on that may be written. -/
def RowAt (w : World) (B : Nat) (a : Option Addr) (xs : List ByteArray) (cap : Nat) : Prop := xs.length ≤ cap ∧ (xs = [] ∨ ∃ g, a = some ⟨g, 0, none⟩ ∧ B ≤ g ∧ WRow w g xs)
def sv (xs : List (List UInt8)) : List Value := xs.map fun l => .string (mkB l)
theorem sv_snoc (xs : List (List UInt8)) (l : List UInt8) : sv xs ++ [.string (mkB l)] = sv (xs ++ [l]) := by simp [sv]
theorem sv_len (xs : List (List UInt8)) : (sv xs).length = xs.length := by simp [sv]
theorem own_rowAt {w : World} {B : Nat} {v : Value} {xs : List (List UInt8)} (h : w.ownsRow B 9 1 v xs.length (sv xs)) : ∃ a cap, v = .slice a xs.length cap ∧ RowAt w B a (xs.map mkB) cap := by
  have hc : ∀ g, v.ownBlock = some g → ∀ j u, (sv xs)[j]? = some u → w.cell? ((⟨g, 0, none⟩ : Addr).add j) = some u := fun g hg => h.cells hg
  have hlt := h.lt
  obtain ⟨_, ⟨rfl, h0⟩ | ⟨g, cap, cur, rfl, hB, hcur, hn, _, hsz, _⟩⟩ := h
  · have : xs = [] := List.eq_nil_of_length_eq_zero h0
    subst this
    exact ⟨none, 0, rfl, by simp, .inl rfl⟩
  · refine ⟨_, cap, rfl, by simpa using hn, .inr ⟨g, rfl, hB, (hlt g rfl).2, fun j hj => ?_⟩⟩
    rw [List.length_map] at hj
    refine ⟨?_, ?_⟩
    · have := hc g rfl j _ (show (sv xs)[j]? = some _ by simp [sv, hj]; rfl)
      have e : (⟨g, 0, none⟩ : Addr).add j = ⟨g, j, none⟩ := by
        cases j <;> simp [Addr.add]
      rw [e] at this
      simpa [List.getD, hj] using this
    · unfold World.frozen?
      rw [hcur]; simp

def PartsPost (s : ByteArray) (w : World) (e : Ending) (w' : World) : Prop :=
  ∃ a cap xs b, e = .returned (.tuple #[.slice a xs.length cap, .bool b]) ∧ PartsIs s xs b ∧ RowAt w' w.heap.size a xs cap ∧ Below w.heap.size w w'
theorem PartsPost.empty {s : ByteArray} {w w' : World} {a : Option Addr} {cap : Nat} (h : 600 < s.size ∨ ¬ W.printable s ∨ 10 < (Lib.fields s.data.toList).length) (hb : Below w.heap.size w w') :
    PartsPost s w (.returned (.tuple #[.slice a 0 cap, .bool false])) w' := ⟨a, cap, [], false, rfl, .inr ⟨rfl, rfl, h⟩, ⟨Nat.zero_le _, .inl rfl⟩, hb⟩
theorem PartsPost.full {s : ByteArray} {w w' : World} {v : Value} (h0 : s.size ≤ 600) (h1 : W.printable s) (h2 : (Lib.fields s.data.toList).length ≤ 10)
    (hown : w'.ownsRow w.heap.size 9 1 v (Lib.fields s.data.toList).length (sv (Lib.fields s.data.toList))) (hb : Below w.heap.size w w') :
    PartsPost s w (.returned (.tuple #[v, .bool true])) w' := by
  obtain ⟨a, cap, rfl, hr⟩ := own_rowAt hown
  exact ⟨a, cap, (Lib.fields s.data.toList).map mkB, true, by rw [List.length_map], .inl ⟨rfl, h0, h1, h2, rfl⟩, hr, hb⟩

theorem part_own {w1 : World} {B g k : Nat} {s : ByteArray} {done : List (List UInt8)} {v' : Value} (h : w1.ownsRow B 9 1 v' (done.length + 1) (sv done ++ [.string (s.extract g k)])) :
    w1.ownsRow B 9 1 v' (done ++ [W.cut s g k]).length (sv (done ++ [W.cut s g k])) := by
  have e : s.extract g k = mkB (W.cut s g k) := rfl
  rw [e, sv_snoc] at h
  simpa using h
theorem Tryd.info9 : (Tryd.prog.info? 9).map (fun i => (i.zero, i.size, i.bytes)) = some (some (.string ⟨#[]⟩), 1, 16) := by kernel_rfl

set_option maxHeartbeats 1000000 in
theorem specPartsOf (s : ByteArray) (w : World) :
    Calls Tryd.prog 7 #[.string s] w fun e w' => PartsPost s w e w' := by
  obtain ⟨i0, hi, hz0, hz1, hz2⟩ := info_parts Tryd.info9
  have hb := Go.PlainAid.get_bt s
  by_cases hl : 600 < s.size
  · go_enter Tryd.func7, Tryd.ntmps7
    go_wp2_with fail
    go_ret2
    exact PartsPost.empty (.inl hl) ((Below.refl _ _).alloc (Nat.le_refl _) _)
  · have hld : decide ((600 : Int) < s.size) = false := by simp; omega
    go_enter Tryd.func7, Tryd.ntmps7
    go_wp2_with fail
    go_loopw [4, 5, 6] (fun v bg i wr => ∃ (k g : Nat) (done : List (List UInt8)), bg = .int .i64 g ∧ i = .int .i64 k ∧ k ≤ s.size + 1 ∧ g ≤ k ∧ done.length ≤ k ∧ (k ≤ s.size → W.PfRel s k g done) ∧ (s.size < k → W.printable s ∧ Lib.fields s.data.toList = done) ∧ wr.ownsRow w.heap.size 9 1 v done.length (sv done) ∧ Below w.heap.size w wr) (fun _ _ i _ => s.size + 1 - (intOf i).toNat)
    case atStart => exact ⟨0, 0, [], rfl, rfl, by omega, by omega, by simp, fun _ => W.PfRel.start s, fun h => by omega, World.ownsRow_made w #[] 0 (Nat.le_refl _) (by decide) rfl, (Below.refl _ _).alloc (Nat.le_refl _) _⟩
    case round =>
      obtain ⟨k, g, done, rfl, rfl, hk, hgk, hdk, hr, hfi, hown, hbl⟩ := hrel
      have hB := hbl.size
      have HR : Hid (k ≤ s.size → W.PfRel s k g done) := hr
      have HF : Hid (s.size < k → W.printable s ∧ Lib.fields s.data.toList = done) := hfi
      clear hr hfi
      by_cases hlt : k < s.size
      · have b0 := Go.PlainAid.bt_nonneg s k
        have b1 := Go.PlainAid.bt_le s k
        by_cases c1 : bt s k < 32
        · go_wp2_with fail
          go_ret2
          exact PartsPost.empty (.inr (.inl (fun h => by have := h k hlt; omega))) (hbl.alloc hB _)
        · by_cases c2 : 126 < bt s k
          · go_wp2_with fail
            go_ret2
            exact PartsPost.empty (.inr (.inl (fun h => by have := h k hlt; omega))) (hbl.alloc hB _)
          · by_cases c3 : bt s k = 32
            · have c3' : (bt s k != 32) = false := by rw [c3]; rfl
              have HC : Hid _ := (HR.out (by omega)).blank hlt c3
              have C3 : Hid (bt s k = 32) := c3
              clear c3
              by_cases hgk' : g < k
              · have hsl := slice_str s g k (by omega) (by omega)
                go_wp2_with (at_builtin; refine wpList_append_own _ rfl _ _ 24 rfl w.heap.size 9 i0 (.string ⟨#[]⟩) 1 16 Tryd.underlying24 hi hz0 hz1 hz2 rfl (by decide) _ _ _ rfl (hown.alloc _) ⟨wr.heap.size, 0, none⟩ 1 1 [.string _] rfl rfl (cell_one_new _ _ _) ?c2 ?c3 ?c4 ?c5 ?_)
                case c2 => first | rfl | (intro u hu; simp at hu; subst hu; rfl)
                case c3 => unfold maxLen; omega
                case c4 => omega
                case c5 => first | omega | (simp; omega)
                · intro v' w1 hown' hgrow _
                  have hown2 := part_own hown'
                  have hbn := (hbl.alloc hB _).grown hgrow (by simp; omega) (fun j hj => (hown.lt j hj).1)
                  clear hown' hgrow hown
                  go_wp2_with fail
                  go_roundw
                  case rel => exact ⟨k + 1, k + 1, _, by go_num, by go_num, by omega, by omega, by simp; omega, fun _ => HC.out.2 hgk', fun h => by omega, hown2, hbn⟩
                  case measure => simp [intOf]; omega
              · go_wp2_with fail
                go_roundw
                case rel => exact ⟨k + 1, k + 1, done, by go_num, by go_num, by omega, by omega, by omega, fun _ => HC.out.1 (by omega), fun h => by omega, hown, hbl⟩
                case measure => simp [intOf]; omega
            · have c3' : (bt s k != 32) = true := by rw [bne_iff_ne]; exact c3
              go_wp2_with fail
              go_roundw
              case rel => exact ⟨k + 1, g, done, rfl, by go_num, by omega, by omega, by omega, fun _ => (HR.out (by omega)).word hlt (by omega) (by omega) c3, fun h => by omega, hown, hbl⟩
              case measure => simp [intOf]; omega
      · by_cases hek : k = s.size
        · have hpf := HR.out (by omega)
          have hpr : W.printable s := fun j hj => hpf.2.2.1 j (by omega)
          have HC : Hid _ := hpf.fin (by omega)
          have HK : Hid (k = s.size) := hek
          have HP : Hid _ := hpr
          clear hek hpf hpr
          have hk1 : k ≤ s.size := by have := HK.out; omega
          by_cases hgk' : g < k
          · have hsl := slice_str s g k (by omega) hk1
            go_wp2_with (at_builtin; refine wpList_append_own _ rfl _ _ 24 rfl w.heap.size 9 i0 (.string ⟨#[]⟩) 1 16 Tryd.underlying24 hi hz0 hz1 hz2 rfl (by decide) _ _ _ rfl (hown.alloc _) ⟨wr.heap.size, 0, none⟩ 1 1 [.string _] rfl rfl (cell_one_new _ _ _) ?c2 ?c3 ?c4 ?c5 ?_)
            case c2 => first | rfl | (intro u hu; simp at hu; subst hu; rfl)
            case c3 => unfold maxLen; omega
            case c4 => omega
            case c5 => first | omega | (simp; omega)
            · intro v' w1 hown' hgrow _
              have hown2 := part_own hown'
              have hbn := (hbl.alloc hB _).grown hgrow (by simp; omega) (fun j hj => (hown.lt j hj).1)
              clear hown' hgrow hown
              go_wp2_with fail
              go_roundw
              case rel => exact ⟨k + 1, k + 1, _, by go_num, by go_num, by omega, by omega, by simp; omega, fun h => by have := HK.out; omega, fun h => ⟨HP.out, HC.out.2 hgk'⟩, hown2, hbn⟩
              case measure => simp [intOf]; omega
          · go_wp2_with fail
            go_roundw
            case rel => exact ⟨k + 1, k + 1, done, by go_num, by go_num, by omega, by omega, by omega, fun h => by have := HK.out; omega, fun h => ⟨HP.out, HC.out.1 (by omega)⟩, hown, hbl⟩
            case measure => simp [intOf]; omega
        · obtain ⟨hpr, hfd⟩ := HF.out (by omega)
          obtain ⟨a, cap, rfl, hra⟩ := own_rowAt hown
          have HD : Hid _ := hfd
          have HP : Hid _ := hpr
          have HO : Hid _ := hown
          clear hfd hpr hown
          by_cases h10 : 10 < done.length
          · go_wp2_with fail
            go_ret2
            exact PartsPost.empty (.inr (.inr (by rw [HD.out]; exact h10))) (hbl.alloc hB _)
          · go_wp2_with fail
            go_ret2
            exact PartsPost.full (by omega) HP.out (by rw [HD.out]; omega) (by rw [HD.out]; exact HO.out) hbl
end Go.Proofs.YtphhiomiiapcpaiDoor
