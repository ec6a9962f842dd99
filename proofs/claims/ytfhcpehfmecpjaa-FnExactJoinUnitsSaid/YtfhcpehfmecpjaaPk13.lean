/- Texts of ours, laid one behind the other: SgP. -/
import Derived.Test.YtfhcpehfmecpjaaPk12
import Derived.Conc.LeavingOf
set_option linter.unusedVariables false
set_option linter.unusedSimpArgs false
/- From the twin's contract, on every tape, to the program's good run. -/
namespace Go.Proofs.Ytfhcpehfmecpjaa
open Go.Conc Go.RowKit

theorem pi_none : Pi 0 #[] := ⟨past_nil, fun i a h => by cases h⟩
section
variable {ok : Op → Bool} {F : FuncId → List Lp} {S S' : List FuncId} {T : Tables} {f g : Array Func} {w₀ : World} {V : Lp → Frame → List Value → Prop} {Post : Value → World → Prop}
theorem tm_start {L : FuncId} {args : Array Value} {Q : World → Value → World → Prop} (hC : ∀ τ, Calls ⟨T, f⟩ L args (Rt w₀ τ) fun e w' => ∃ v, e = .returned v ∧ Q (Rt w₀ τ) v w') :
    Tm2 ⟨T, f⟩ (fun fr w' => ∃ τ v fn, fr.fn = L ∧ f[L]? = some fn ∧ (results fn fr.tmps).run ⟨T, f⟩ w' = .ok v w' ∧ Q (Rt w₀ τ) v w') (Frame.enter ⟨T, f⟩ L args .normal) [] w₀ := by
  intro τ _
  obtain ⟨e, w', fr', ⟨v, rfl, hq⟩, hs, hf, hm, hdf, hkd, fn, k1, k2⟩ := hC τ [sent ⟨T, f⟩]
  obtain ⟨n, hn⟩ := hs
  exact ⟨n, fr', w', hn, ⟨hm, hdf, hkd, fn, k1⟩, τ, v, fn, hf, by rw [← hf]; exact k1, k2, hq⟩
/-- ████ WHERE THE TWIN COMES TO ITS END ON EVERY TAPE, THE PROGRAM'S RUN ENDS WELL. ████ -/
theorem wins2 (hE : Env T f g ok S S' F) (hC : CallT T f ok S F V) (hP : CallP T f g ok S F V Post) {L : FuncId} {args : Array Value} {Q : World → Value → World → Prop} (hL : L ∈ S) (hcalls : ∀ τ, Calls ⟨T, f⟩ L args (Rt w₀ τ) fun e w' => ∃ v, e = .returned v ∧ Q (Rt w₀ τ) v w')
    (hEnd : EndP T f g ok S (fun fr w' => ∃ τ v fn, fr.fn = L ∧ f[L]? = some fn ∧ (results fn fr.tmps).run ⟨T, f⟩ w' = .ok v w' ∧ Q (Rt w₀ τ) v w') Post w₀ w₀.tape) {sl : Option (Nat × Nat)} {t : Trace} {B : Nat} (hPi : Pi B t) (hdeaf : ∀ j, 0 < j → Deaf t j = 0) :
    Win ⟨T, g⟩ Post #[Gr (Frame.enter ⟨T, g⟩ L args .normal) []] w₀ sl t := by
  have hT := tm_start (T := T) (f := f) hcalls
  have ho : Ord ok S (Frame.enter ⟨T, f⟩ L args .normal) := enter_ord hL (hE.ff L hL)
  have hid : Id T f S F (Frame.enter ⟨T, f⟩ L args .normal) [] := by
    refine ⟨hE.ent L hL args, by simp, fun fn q => ?_, by simp⟩
    have q' : f[L]? = some fn := q
    simp only [Frame.enter, q', Option.map_some, Option.getD_some, Array.size_append, Array.size_replicate]
    omega
  have hn := nodes hE hP hEnd (tree hE hC ho (by simp) (.inl hid) hT) ho (by simp) hT
  rw [enter_two (T := T) (hE.fine L hL).1.1]
  refine hn.idle hid _ w₀ sl t (fun _ => 0) B rfl ⟨fun i x hi hx => ?_, fun j hj => hdeaf j (show 1 ≤ j from hj)⟩ hPi ⟨Sim.refl _, fun b c bf cl s r tm e => ⟨e, e⟩, rfl⟩
  rw [Array.getElem?_eq_none (by show 1 ≤ i; omega)] at hx
  cases hx
end
theorem deaf_none (j : Nat) : Deaf #[] j = 0 := rfl
/-- The end of both worlds, as the twin's contract tells it. -/
theorem below_end {w₀ w w₁ : World} {τ : Nat → Question → Nat} (hb : Below w₀.heap.size (Rt w₀ τ) (Rt w w.tape)) (hs : Sim (some 0) w w₁) (hj : Jw w₀ w w₁) (ht : w₁.tape = w₀.tape) (d : Nat) : Below w₀.heap.size w₀ (w₁.at d) := by
  refine ⟨hs.os.trans hb.os, ht, hs.output.trans hb.output, ?_, fun k hk => ?_⟩
  · show w₀.heap.size ≤ w₁.heap.size
    rw [hs.size]; exact hb.size
  · show w₁.heap[k]? = w₀.heap[k]?
    have e : w.heap[k]? = w₀.heap[k]? := hb.block k hk
    rcases hs.block k with q | ⟨_, ⟨c, bf, cl, s, r, t, q1⟩, _⟩
    · exact q.trans e
    · have q0 : w₀.heap[k]? = some (.chan c bf cl s r t) := e.symm.trans q1
      rw [(hj _ _ _ _ _ _ _ q0).2, q0]
/-- ████ A LAW'S RUN. ████ -/
theorem law_run {L : FuncId} {fn : Func} {args : Array Value} {W : World} {Post : Value → World → Prop} (hL : L ∈ Sn) (hne : L ≠ 24) (hf : Try.prog.funcs[L]? = some fn) {r : Nat} (hr : fn.results = #[.tmp r]) (hi : Try.prog.inits.idxOf? L = none)
    (hcalls : ∀ τ, Calls tw L args (Rt W τ) fun e w' => e = .returned (.bool true) ∧ Below W.heap.size (Rt W τ) w') (hpost : ∀ W', Below W.heap.size W W' → Post (.bool true) W') :
    ∃ M last o w' t', runNT Try.prog (M + 1) (solo (G (Frame.enter Try.prog L args .normal) []) W) #[] = (.ended o w', t') ∧ runN Try.prog M (solo (G (Frame.enter Try.prog L args .normal) []) W) = .next last ∧ step Try.prog last = .ended o w' ∧ Conc.Good Try.prog Post last o w' t' := by
  have h := wins2 (w₀ := W) (Q := fun a v w' => v = .bool true ∧ Below W.heap.size a w') env callsT (callP (Post := Post)) hL (fun τ => (hcalls τ).mono (fun e w' q => ⟨.bool true, q.1, rfl, q.2⟩)) (sl := none) (t := #[]) (B := 0) ?_ pi_none (fun j _ => deaf_none j)
  · exact h
  · intro fr w w₁ ho hm hfin hs hj ht
    obtain ⟨τ, v, fn', e1, e2, e3, rfl, hb⟩ := hfin w.tape (fun _ _ => rfl)
    have e4 : some fn = some fn' := by rw [← hf, ← e2]; exact (tw_ne hne).symm
    obtain rfl : fn = fn' := Option.some.inj e4
    have hres : results fn fr.tmps = pure (fr.tmps.getD r undef) := by
      simp [-Array.getD_eq_getD_getElem?, results, hr]
    refine ⟨fn, .bool true, by rw [e1]; exact hf, ?_, by rw [e1]; exact hi, fun d => hpost _ (below_end hb hs hj ht d)⟩
    rw [hres] at e3 ⊢
    have e5 : fr.tmps.getD r undef = .bool true := by
      simpa [-Array.getD_eq_getD_getElem?] using e3
    rw [e5]
end Go.Proofs.Ytfhcpehfmecpjaa
