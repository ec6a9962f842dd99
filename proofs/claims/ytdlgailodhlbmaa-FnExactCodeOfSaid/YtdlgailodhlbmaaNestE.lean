/- Rows of rows of numbers as values: what is seen of one, what an answer is, what is marked, and the laws' own functions over them. -/
import Derived.Test.YtdlgailodhlbmaaNestD
namespace Go.Proofs.Ytdlgailodhlbmaa
open Go.RowKit

/-- How many numbers there are. -/
def xsum : List (List Int) → Nat
  | [] => 0
  | x :: X => x.length + xsum X
theorem msum_rws (ss : List SR) : msum ss = xsum (rws ss) := by
  induction ss with
  | nil => rfl
  | cons s ss ih => simp only [msum, rws, List.map_cons, xsum]; rw [ih]; rfl
theorem xsum_mem {X : List (List Int)} {x : List Int} (h : x ∈ X) : x.length ≤ xsum X := by
  induction X with
  | nil => simp at h
  | cons t X ih =>
    rcases List.mem_cons.1 h with rfl | h
    · simp only [xsum]; omega
    · have := ih h; simp only [xsum]; omega
/-- A value that is these rows of numbers. -/
def MSee (w : World) (v : Value) (X : List (List Int)) (lo hi : Nat) : Prop := ∃ (a : Option Addr) (cap : Nat) (ss : List SR), v = .slice a ss.length cap ∧ rws ss = X ∧ MR w a ss lo hi
/-- A value that was marked from k on, where it was these rows of numbers. -/
def MHeld (w : World) (v : Value) (k : Nat) (X : List (List Int)) (lo hi : Nat) : Prop := ∃ (a : Option Addr) (cap : Nat) (ss ts : List SR), v = .slice a ss.length cap ∧ rws ss = X ∧ Marked k ss ts ss.length ∧ MR w a ts lo hi
theorem MAns.see {w : World} {v : Value} {X : List (List Int)} {lo hi : Nat} (h : MAns w v X lo hi) : MSee w v X lo hi := by
  obtain ⟨a, cap, ss, e, hr, _, h1⟩ := h
  refine ⟨a, cap, ss, e, hr, ?_⟩
  rcases h1 with rfl | ⟨g, rfl, hm⟩
  · exact MR.nil _ _ _ _
  · exact hm.mr
theorem MSee.turned {w w' : World} {v : Value} {X : List (List Int)} {lo hi lo' hi' : Nat} (h : MSee w v X lo hi) (t : Turned w w' lo' hi') (hd : hi ≤ lo' ∨ hi' ≤ lo) : MSee w' v X lo hi := by
  obtain ⟨a, cap, ss, e, hr, h1⟩ := h
  exact ⟨a, cap, ss, e, hr, h1.turned t hd⟩
theorem MSee.below {w w' : World} {v : Value} {X : List (List Int)} {lo hi : Nat} (h : MSee w v X lo hi) (hb : Below w.heap.size w w') : MSee w' v X lo hi := by
  obtain ⟨a, cap, ss, e, hr, h1⟩ := h
  exact ⟨a, cap, ss, e, hr, h1.below hb⟩
theorem MSee.wide {w : World} {v : Value} {X : List (List Int)} {lo hi lo' hi' : Nat} (h : MSee w v X lo hi) (h1 : lo' ≤ lo) (h2 : hi ≤ hi') : MSee w v X lo' hi' := by
  obtain ⟨a, cap, ss, e, hr, q⟩ := h
  exact ⟨a, cap, ss, e, hr, q.wide h1 h2⟩
theorem MHeld.turned {w w' : World} {v : Value} {k : Nat} {X : List (List Int)} {lo hi lo' hi' : Nat} (h : MHeld w v k X lo hi) (t : Turned w w' lo' hi') (hd : hi ≤ lo' ∨ hi' ≤ lo) : MHeld w' v k X lo hi := by
  obtain ⟨a, cap, ss, ts, e, hr, hm, h1⟩ := h
  exact ⟨a, cap, ss, ts, e, hr, hm, h1.turned t hd⟩
theorem MHeld.below {w w' : World} {v : Value} {k : Nat} {X : List (List Int)} {lo hi : Nat} (h : MHeld w v k X lo hi) (hb : Below w.heap.size w w') : MHeld w' v k X lo hi := by
  obtain ⟨a, cap, ss, ts, e, hr, hm, h1⟩ := h
  exact ⟨a, cap, ss, ts, e, hr, hm, h1.below hb⟩
theorem MAns.turned {w w' : World} {v : Value} {X : List (List Int)} {lo hi lo' hi' : Nat} (h : MAns w v X lo hi) (t : Turned w w' lo' hi') (hd : hi ≤ lo' ∨ hi' ≤ lo) : MAns w' v X lo hi := by
  obtain ⟨a, cap, ss, e, hr, hc, h1⟩ := h
  refine ⟨a, cap, ss, e, hr, hc, ?_⟩
  rcases h1 with rfl | ⟨g, rfl, hm⟩
  · exact .inl rfl
  · exact .inr ⟨g, rfl, hm.turned t hd⟩
theorem MAns.below {w w' : World} {v : Value} {X : List (List Int)} {lo hi : Nat} (h : MAns w v X lo hi) (hb : Below w.heap.size w w') : MAns w' v X lo hi := by
  obtain ⟨a, cap, ss, e, hr, hc, h1⟩ := h
  refine ⟨a, cap, ss, e, hr, hc, ?_⟩
  rcases h1 with rfl | ⟨g, rfl, hm⟩
  · exact .inl rfl
  · exact .inr ⟨g, rfl, hm.below hb⟩
/-- What an answer of rows of numbers is: new memory alone. -/
def MPost (X : List (List Int)) (w : World) (e : Ending) (w' : World) : Prop := ∃ v, e = .returned v ∧ MAns w' v X w.heap.size w'.heap.size ∧ Below w.heap.size w w'
/-- Rows that a machine can hold. -/
def MFit (X : List (List Int)) : Prop := X.length + xsum X ≤ 1048576
theorem rows_fit {ss : List SR} {X : List (List Int)} (hr : rws ss = X) (hf : MFit X) : ss.length ≤ 1048576 ∧ (∀ s ∈ ss, s.row.length ≤ 1048576) ∧ msum ss = xsum X ∧ xsum X ≤ 1048576 := by
  have h1 : ss.length = X.length := by rw [← hr, rws_len]
  have h2 : msum ss = xsum X := by rw [msum_rws, hr]
  have h3 := hf
  unfold MFit at h3
  exact ⟨by omega, fun s hs => by have := msum_mem hs; omega, h2, by omega⟩
theorem eqIntSS_val {w : World} {v u : Value} {X : List (List Int)} {lo hi lo' hi' : Nat} (h : MSee w v X lo hi) (k : MSee w u X lo' hi') (hf : MFit X) : Calls Try.prog 25 #[v, u] w fun e w' => e = .returned (.bool true) ∧ Below w.heap.size w w' := by
  obtain ⟨a, cap, ss, rfl, hr, h1⟩ := h
  obtain ⟨b, cap', tt, rfl, hr', h1'⟩ := k
  obtain ⟨f1, f2, _, _⟩ := rows_fit hr hf
  exact eqIntSS_same a b ss tt cap cap' w lo hi lo' hi' h1 h1' (hr.trans hr'.symm) f1 f2
theorem sameMatrix_val {w : World} {v u : Value} {X : List (List Int)} {lo hi lo' hi' : Nat} (h : MSee w v X lo hi) (k : MSee w u X lo' hi') (hf : MFit X) : Calls Try.prog 20 #[v, u] w fun e w' => e = .returned (.bool true) ∧ Below w.heap.size w w' := by
  obtain ⟨a, cap, ss, rfl, hr, h1⟩ := h
  obtain ⟨b, cap', tt, rfl, hr', h1'⟩ := k
  obtain ⟨f1, f2, _, _⟩ := rows_fit hr hf
  exact sameMatrix_same a b ss tt cap cap' w lo hi lo' hi' h1 h1' (hr.trans hr'.symm) f1 f2
theorem markIntSS_none (a : Option Addr) (k ca : Nat) (w : World) : Calls Try.prog 26 #[.slice a 0 ca, .int .i64 k] w fun e w' => e = .returned (.int .i64 k) ∧ w' = w := by
  go_enter Try.func26, Try.ntmps26
  go_wp2_with fail
  go_rounds 1
  go_ret
  exact ⟨rfl, rfl⟩
theorem markIntSS_val {w : World} {v : Value} {X : List (List Int)} {lo hi : Nat} (k : Nat) (h : MAns w v X lo hi) (hf : MFit X) (hk : k ≤ 100000000) :
    Calls Try.prog 26 #[v, .int .i64 k] w fun e w' => e = .returned (.int .i64 (k + xsum X : Nat)) ∧ MHeld w' v k X lo hi ∧ Turned w w' lo hi := by
  obtain ⟨a, cap, ss, rfl, hr, hc, h1⟩ := h
  obtain ⟨f1, _, f3, f4⟩ := rows_fit hr hf
  rcases h1 with rfl | ⟨g, rfl, hm⟩
  · have hx : X = [] := by rw [← hr]; rfl
    subst hx
    refine (markIntSS_none a k cap w).mono ?_
    rintro e w' ⟨rfl, rfl⟩
    exact ⟨rfl, ⟨a, cap, [], [], rfl, rfl, Marked.start k [], MR.nil _ _ _ _⟩, Turned.refl _ _ _⟩
  · refine (markIntSS_any g ss k cap w lo hi hm (by omega) f1).mono ?_
    rintro e w' ⟨ts, rfl, hmk, hmw, ht⟩
    exact ⟨by rw [f3], ⟨_, cap, ss, ts, rfl, hr, hmk, hmw.mr⟩, ht⟩
theorem heldIntSS_val {w : World} {v : Value} {k : Nat} {X : List (List Int)} {lo hi : Nat} (h : MHeld w v k X lo hi) (hf : MFit X) (hk : k ≤ 100000000) :
    Calls Try.prog 27 #[v, .int .i64 k] w fun e w' => e = .returned (.int .i64 (k + xsum X : Nat)) ∧ Below w.heap.size w w' := by
  obtain ⟨a, cap, ss, ts, rfl, hr, hm, h1⟩ := h
  obtain ⟨f1, _, f3, f4⟩ := rows_fit hr hf
  have := heldIntSS_any a ss ts k cap w lo hi h1 hm (by omega) f1
  rwa [f3] at this
end Go.Proofs.Ytdlgailodhlbmaa
