/- The walks of the two ReadShort: each returns what 'readShortI' says. -/
import Derived.Test.YtphhiomiiapcpaaDoorReadVar
import Derived.Test.YtphhiomiiapcpaaDoorShelf
namespace Go.Proofs.YtphhiomiiapcpaaDoor
open Go.RowKit

def rsV : Option (ByteArray × Nat) → Value
  | none => .tuple #[.string ⟨#[]⟩, .int .i64 0, .bool false]
  | some (t, p) => .tuple #[.string t, .int .i64 p, .bool true]
theorem rsV_form : ∀ x, ∃ (t : ByteArray) (q : Int) (b : Bool), rsV x = .tuple #[.string t, .int .i64 q, .bool b]
  | none => ⟨⟨#[]⟩, 0, false, rfl⟩
  | some (t, p) => ⟨t, p, true, rfl⟩
def readShortI (s : ByteArray) (a : Int) : Option (ByteArray × Nat) :=
  match readVarI s a with
  | none => none
  | some (n, p) => if n ≤ 20000 ∧ p + n ≤ s.size then some (s.extract p (p + n), p + n) else none

theorem strClone (s : ByteArray) (w : World) (h : s.size ≤ 281474976710656) :
    Calls Tryd.prog 22 #[.string s] w fun e w' => e = .returned (.string s) ∧ Below w.heap.size w w' := by
  go_enter Tryd.func22, Tryd.ntmps22
  go_wp2_with fail
  refine (Tryd.stringslite_Clone s _ h).mono ?_
  rintro e w1 ⟨rfl, hb⟩
  go_wp2_with fail
  go_ret
  exact ⟨rfl, hb⟩

set_option maxHeartbeats 400000 in
theorem implReadShort (s : ByteArray) (a : Int) (w : World) (hs : s.size ≤ 1048576) :
    Calls Tryd.prog 12 #[.string s, .int .i64 a] w fun e w' => e = .returned (rsV (readShortI s a)) ∧ Below w.heap.size w w' := by
  have hc := implReadVar s a w hs
  unfold readShortI
  cases hv : readVarI s a with
  | none =>
    rw [hv] at hc
    have hc' : Calls Tryd.prog 7 #[.string s, .int .i64 a] w fun e w' => e = .returned (.tuple #[.int .i64 0, .int .i64 0, .bool false]) ∧ w' = w := hc
    have HC : Hid _ := hc'
    clear hc hc' hv
    go_enter Tryd.func12, Tryd.ntmps12
    go_wp2_with fail
    refine Calls.mono HC.out ?_
    rintro e w' ⟨rfl, rfl⟩
    go_wp2_with fail
    go_ret3
    exact ⟨rfl, Below.refl _ _⟩
  | some x =>
    obtain ⟨n, p⟩ := x
    obtain ⟨hn, hp⟩ := readVarI_bounds hv
    rw [hv] at hc
    have hc' : Calls Tryd.prog 7 #[.string s, .int .i64 a] w fun e w' => e = .returned (.tuple #[.int .i64 n, .int .i64 p, .bool true]) ∧ w' = w := hc
    have HC : Hid _ := hc'
    clear hc hc' hv
    show Calls _ _ _ _ fun e w' => e = .returned (rsV (if n ≤ 20000 ∧ p + n ≤ s.size then some (s.extract p (p + n), p + n) else none)) ∧ _
    by_cases h1 : 20000 < n
    · rw [if_neg (by omega)]
      go_enter Tryd.func12, Tryd.ntmps12
      go_wp2_with fail
      refine Calls.mono HC.out ?_
      rintro e w' ⟨rfl, rfl⟩
      go_wp2_with fail
      go_ret3
      exact ⟨rfl, Below.refl _ _⟩
    · by_cases h2 : s.size < p + n
      · rw [if_neg (by omega)]
        go_enter Tryd.func12, Tryd.ntmps12
        go_wp2_with fail
        refine Calls.mono HC.out ?_
        rintro e w' ⟨rfl, rfl⟩
        go_wp2_with fail
        go_ret3
        exact ⟨rfl, Below.refl _ _⟩
      · rw [if_pos (by omega)]
        have hsl := slice_str s p (p + n) (by omega) (by omega)
        rw [show ((p + n : Nat) : Int) = (p : Int) + (n : Int) from by omega] at hsl
        have hcl : (s.extract p (p + n)).size ≤ 281474976710656 := by simp; omega
        go_enter Tryd.func12, Tryd.ntmps12
        go_wp2_with fail
        refine Calls.mono HC.out ?_
        rintro e w' ⟨rfl, rfl⟩
        go_wp2_with fail
        refine (strClone (s.extract p (p + n)) _ hcl).mono ?_
        rintro e w1 ⟨rfl, hb⟩
        go_wp2_with fail
        go_ret3
        exact ⟨rfl, hb⟩

end Go.Proofs.YtphhiomiiapcpaaDoor
