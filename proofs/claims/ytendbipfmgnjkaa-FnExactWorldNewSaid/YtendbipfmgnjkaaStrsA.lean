/- Slices of strings: how they are held against each other. -/
import Derived.Test.YtendbipfmgnjkaaBytes
import Derived.Deep.QuietTactic
import Derived.BigQuiet
namespace Go.Proofs.Ytendbipfmgnjkaa
set_option maxRecDepth 100000
open Go.RowKit

theorem drewN_two (w : World) (a b : Nat) : (w.drewN a).drewN b = w.drewN (a + b) := by simp [World.drewN, Nat.add_assoc]
/-- A slice of strings, as it reads. -/
def SRow (w : World) (a : Option Addr) (xs : List ByteArray) : Prop :=
  0 < xs.length → ∃ g, a = some ⟨g, 0, none⟩ ∧ g < w.heap.size ∧ ∀ j, j < xs.length → w.cell? ⟨g, j, none⟩ = some (.string (xs.getD j ⟨#[]⟩))

def eqS (xs ys : List ByteArray) : Bool := decide (xs = ys)
theorem eqS_len (xs ys : List ByteArray) (h : xs.length ≠ ys.length) : eqS xs ys = false := by
  unfold eqS; rw [decide_eq_false]; intro e; rw [e] at h; exact h rfl
/-- The first k are the same. -/
def sameTo (xs ys : List ByteArray) (k : Nat) : Prop := ∀ j, j < k → xs.getD j ⟨#[]⟩ = ys.getD j ⟨#[]⟩
theorem eqS_yes (xs ys : List ByteArray) (h : xs.length = ys.length) (hs : sameTo xs ys xs.length) : eqS xs ys = true := by
  unfold eqS; rw [decide_eq_true]
  apply List.ext_getElem h
  intro j h1 h2
  have := hs j h1
  simpa [List.getD, h1, h2] using this
theorem eqS_no (xs ys : List ByteArray) (k : Nat) (h : xs.getD k ⟨#[]⟩ ≠ ys.getD k ⟨#[]⟩) : eqS xs ys = false := by
  unfold eqS; rw [decide_eq_false]; intro e; rw [e] at h; exact h rfl
theorem sameTo_step (xs ys : List ByteArray) (k : Nat) (h : sameTo xs ys k) (hk : xs.getD k ⟨#[]⟩ = ys.getD k ⟨#[]⟩) : sameTo xs ys (k + 1) := by
  intro j hj
  by_cases e : j = k
  · subst e; exact hk
  · exact h j (by omega)

set_option maxHeartbeats 400000 in
theorem eqStringS_any (a b : Option Addr) (xs ys : List ByteArray) (ca cb : Nat) (w : World) (ha : SRow w a xs) (hb : SRow w b ys) (hn : xs.length ≤ 100000000) (hm : ys.length ≤ 100000000) :
    Calls Try.prog 35 #[.slice a xs.length ca, .slice b ys.length cb] w fun e w' => e = .returned (.bool (eqS xs ys)) ∧ ∃ q, w' = w.drewN q := by
  obtain ⟨n, hnx⟩ : ∃ n, n = xs.length := ⟨_, rfl⟩
  obtain ⟨m, hmy⟩ : ∃ m, m = ys.length := ⟨_, rfl⟩
  have HN : Hid (n = xs.length) := hnx
  have HM : Hid (m = ys.length) := hmy
  rw [← hnx, ← hmy]
  rw [← hnx] at hn
  rw [← hmy] at hm
  clear hnx hmy
  by_cases h : n = m
  · subst h
    have hd : (((n : Int) != (n : Int))) = false := by simp
    go_enter Try.func35, Try.ntmps35
    go_wp2_with fail
    go_loopw [5] (fun i wr => ∃ (k q : Nat), i = .int .i64 k ∧ k ≤ n ∧ sameTo xs ys k ∧ wr = w.drewN q) (fun i _ => n - (intOf i).toNat)
    case atStart => exact ⟨0, 0, rfl, Nat.zero_le _, fun j hj => by omega, rfl⟩
    case round =>
      obtain ⟨k, q, rfl, hk, hs, rfl⟩ := hrel
      by_cases hlt : k < n
      · obtain ⟨g, rfl, _, hc⟩ := ha (by have := HN.out; omega)
        obtain ⟨g', rfl, _, hc'⟩ := hb (by have := HM.out; omega)
        have c1 := hc k (by have := HN.out; omega)
        have c2 := hc' k (by have := HM.out; omega)
        have k0 : (0 : Int) ≤ (k : Int) := by omega
        have k1 : (k : Int) < (n : Int) := by omega
        obtain ⟨x, hx⟩ : ∃ x, x = xs.getD k ⟨#[]⟩ := ⟨_, rfl⟩
        obtain ⟨y, hy⟩ : ∃ y, y = ys.getD k ⟨#[]⟩ := ⟨_, rfl⟩
        rw [← hx] at c1
        rw [← hy] at c2
        have HX : Hid _ := hx
        have HY : Hid _ := hy
        clear hx hy hc hc'
        by_cases hxy : x = y
        · have hst := sameTo_step xs ys k hs (by rw [← HX.out, ← HY.out]; exact hxy)
          subst hxy
          go_wp2_with fail
          go_quiet (fail)
          go_wp2_with fail
          go_roundw
          case rel => exact ⟨k + 1, q + nq, by go_num, by omega, hst, rfl⟩
          case measure => simp [intOf]; omega
        · have hbn : (x.toList == y.toList) = false := by
            rw [beq_eq_false_iff_ne]; intro e; apply hxy
            rw [Go.ByteArray.toList_eq, Go.ByteArray.toList_eq] at e
            exact Go.WideShapes.bytes_inj e
          have HE : Hid (eqS xs ys = false) := eqS_no xs ys k (by rw [← HX.out, ← HY.out]; exact hxy)
          go_wp2_with fail
          go_quiet (fail)
          go_wp2_with fail
          go_ret
          exact ⟨by rw [HE.out]; rfl, q + nq, drewN_two _ _ _⟩
      · have HE : Hid (eqS xs ys = true) := eqS_yes xs ys (by rw [← HN.out, ← HM.out]) (by rw [show xs.length = k from by have := HN.out; omega]; exact hs)
        go_wp2_with fail
        go_ret
        exact ⟨by rw [HE.out]; rfl, q, rfl⟩
  · have HE : Hid (eqS xs ys = false) := eqS_len xs ys (by rw [← HN.out, ← HM.out]; exact h)
    have hd : (((n : Int) != (m : Int))) = true := by rw [bne_iff_ne]; omega
    go_enter Try.func35, Try.ntmps35
    go_wp2_with fail
    go_ret
    exact ⟨by rw [HE.out]; rfl, 0, rfl⟩
end Go.Proofs.Ytendbipfmgnjkaa
