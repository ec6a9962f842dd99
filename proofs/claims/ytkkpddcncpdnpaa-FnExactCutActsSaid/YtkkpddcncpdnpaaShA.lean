/- The program's shelf: files behind pointers in a map by their names. What it holds, and the laws of its operations. -/
import Derived.Test.YtkkpddcncpdnpaaActM
import Derived.Test.YtkkpddcncpdnpaaImB
import Derived.Maps.OwnSet
import Derived.Maps.RangeWalk
namespace Go.Proofs.Ytkkpddcncpdnpaa
open Go.RowKit Go.Maps

/-- How a pointer to a block reads. -/
def ptrElem : Value → Option (DataW Unit × List MemPlace)
  | .pointer (some ⟨g, 0, none⟩) => some (.lit (.int .i64 g), [])
  | .pointer none => some (.nil, [])
  | _ => none
theorem ptr_inv {v : Value} {g : Int} {ps : List MemPlace} (h : ptrElem v = some (.lit (.int .i64 g), ps)) : ∃ n : Nat, (n : Int) = g ∧ v = .pointer (some ⟨n, 0, none⟩) := by
  unfold ptrElem at h
  split at h
  · simp at h; exact ⟨_, h.1, rfl⟩
  · simp at h
  · cases h
theorem ptr_nil {v : Value} {ps : List MemPlace} (h : ptrElem v = some (.nil, ps)) : v = .pointer none := by
  unfold ptrElem at h
  split at h
  · simp at h
  · rfl
  · cases h
theorem lawK : Keyed Try.prog 9 := string_keyed Try.underlying9
/-- A name as a key. -/
abbrev kl (n : ByteArray) : Lit := .string n.data.toList
theorem kl_inj {m n : ByteArray} (h : kl m = kl n) : m = n := nm_inj (by simpa using h)
theorem kl_key (n : ByteArray) (h : n.size ≤ maxLen) : keyOf Try.prog 9 (.string n) = some (kl n) := Go.WideMaps.keyOf_string_mk Try.underlying9 h
theorem zeroPtr (w : World) : (zeroValue 88).run Try.prog w = .ok (.pointer none) w := by kernel_rfl
/-- What the shelf holds. -/
def Shelf (w : World) (B b : Nat) (fs : List FM) : Prop :=
  B ≤ b ∧ ∃ (D : DataW Unit) (G : ByteArray → Nat), w.ownsMap Try.prog 9 ptrElem b fs.length D ∧ Maps.size D = fs.length ∧
    (∀ f ∈ fs, (∀ z, D.atKey (kl f.name) z = .lit (.int .i64 (G f.name))) ∧ WCells w (G f.name) (fcells f) ∧ B ≤ G f.name ∧ G f.name ≠ b) ∧
    (∀ f ∈ fs, ∀ f' ∈ fs, G f.name = G f'.name → f.name = f'.name) ∧ ∀ n, (∀ f ∈ fs, f.name ≠ n) → Maps.has D (kl n) = false
theorem own_tight {w : World} {P : Program} {k : TypeId} {R : Value → Option (DataW Unit × List MemPlace)} {b n m : Nat} {D : DataW Unit} (h : w.ownsMap P k R b n D) (hm : Maps.size D = m) : w.ownsMap P k R b m D := by
  obtain ⟨es, clock, hb, F, hs, hD⟩ := h
  refine ⟨es, clock, hb, F, ?_, hD⟩
  have : Maps.size D = es.size := by rw [hD]; simp [Maps.size, length_sorted]
  omega
section
variable {P : Program} (w : World) {ops : Array Oper} {rest : List Oper} {o : Oper} {a : Act} {Q : Exit → Act → World → Prop}
/-- 'f, there := s[name]': there. -/
theorem wpList_there (hg : o.guard = none) (m x : Operand) (t : TypeId) (hop : o.op = Op.lookup t m x true) (k e : TypeId) (K : Keyed P k) (ht : P.underlying t = some (.map k e)) (hz : (zeroValue e).run P w = .ok (.pointer none) w) (b n : Nat) (D : DataW Unit)
    (hm : a.eval m = .map (some b)) (hown : w.ownsMap P k ptrElem b n D) (key : Value) (l : Lit) (hx : a.eval x = key) (hkey : keyOf P k key = some l) (g : Nat) (hat : ∀ z, D.atKey l z = .lit (.int .i64 g))
    (hK : wpList P ops Q rest (a.put o.dst (.tuple #[.pointer (some ⟨g, 0, none⟩), .bool true])) w) : wpList P ops Q (o :: rest) a w :=
  wpList_lookup_own_ok w hg m x t hop k e K ht ptrElem hz .nil [] rfl b n D hm hown key l hx hkey (fun v ps hv => by
    rw [hat] at hv
    obtain ⟨n', e, rfl⟩ := ptr_inv hv
    obtain rfl : n' = g := by omega
    rw [Maps.has_true_of_atKey hat]
    exact hK)
/-- .. not there. -/
theorem wpList_absent (hg : o.guard = none) (m x : Operand) (t : TypeId) (hop : o.op = Op.lookup t m x true) (k e : TypeId) (K : Keyed P k) (ht : P.underlying t = some (.map k e)) (hz : (zeroValue e).run P w = .ok (.pointer none) w) (b n : Nat) (D : DataW Unit)
    (hm : a.eval m = .map (some b)) (hown : w.ownsMap P k ptrElem b n D) (key : Value) (l : Lit) (hx : a.eval x = key) (hkey : keyOf P k key = some l) (hno : Maps.has D l = false)
    (hK : wpList P ops Q rest (a.put o.dst (.tuple #[.pointer none, .bool false])) w) : wpList P ops Q (o :: rest) a w :=
  wpList_lookup_own_ok w hg m x t hop k e K ht ptrElem hz .nil [] rfl b n D hm hown key l hx hkey (fun v ps hv => by
    rw [Maps.atKey_of_not_has hno] at hv
    rw [ptr_nil hv, hno]
    exact hK)
/-- 's[name]' alone. -/
theorem wpList_at (hg : o.guard = none) (m x : Operand) (t : TypeId) (hop : o.op = Op.lookup t m x false) (k e : TypeId) (K : Keyed P k) (ht : P.underlying t = some (.map k e)) (hz : (zeroValue e).run P w = .ok (.pointer none) w) (b n : Nat) (D : DataW Unit)
    (hm : a.eval m = .map (some b)) (hown : w.ownsMap P k ptrElem b n D) (key : Value) (l : Lit) (hx : a.eval x = key) (hkey : keyOf P k key = some l) (g : Nat) (hat : ∀ z, D.atKey l z = .lit (.int .i64 g))
    (hK : wpList P ops Q rest (a.put o.dst (.pointer (some ⟨g, 0, none⟩))) w) : wpList P ops Q (o :: rest) a w := by
  refine wpList_plain hg fun K' hK' => ?_
  obtain ⟨v, ps, hrun, hv⟩ := hown.lookup K ht hz (zd := .nil) (zp := []) rfl hkey
  rw [hat] at hv
  obtain ⟨n', e, rfl⟩ := ptr_inv hv
  obtain rfl : n' = g := by omega
  unfold Oper.wp
  simp [execOp, hop, hm, hx, hrun, Result.andThen]
  exact hK' _ _ hK
end
/-- A file is put. -/
theorem Shelf.put {w' : World} {B b m g : Nat} {fs : List FM} {f : FM} {D D' : DataW Unit} {G : ByteArray → Nat} (hB : B ≤ b) (hown : w'.ownsMap Try.prog 9 ptrElem b m D') (hsz : Maps.size D' = (putF f fs).length)
    (hin : ∀ f' ∈ fs, (∀ z, D.atKey (kl f'.name) z = .lit (.int .i64 (G f'.name))) ∧ B ≤ G f'.name ∧ G f'.name ≠ b) (hinj : ∀ f1 ∈ fs, ∀ f2 ∈ fs, G f1.name = G f2.name → f1.name = f2.name) (hno : ∀ n, (∀ f ∈ fs, f.name ≠ n) → Maps.has D (kl n) = false)
    (hoth : ∀ l, l ≠ kl f.name → (∀ z, D'.atKey l z = D.atKey l z) ∧ Maps.has D' l = Maps.has D l) (hhere : ∀ z, D'.atKey (kl f.name) z = .lit (.int .i64 g)) (hc : WCells w' g (fcells f)) (hcs : ∀ f' ∈ fs, f'.name ≠ f.name → WCells w' (G f'.name) (fcells f')) (hg : ∀ f' ∈ fs, f'.name ≠ f.name → G f'.name ≠ g)
    (hBg : B ≤ g) (hgb : g ≠ b) : Shelf w' B b (putF f fs) := by
  refine ⟨hB, D', fun n => if n = f.name then g else G n, own_tight hown hsz, hsz, fun f' hf' => ?_, fun f1 h1 f2 h2 e => ?_, fun n hn => ?_⟩
  · rcases mem_putF.1 hf' with rfl | ⟨hm, hne⟩
    · simp only [if_pos]
      exact ⟨hhere, hc, hBg, hgb⟩
    · simp only [if_neg hne]
      obtain ⟨q1, q2, q3⟩ := hin f' hm
      exact ⟨fun z => by rw [(hoth _ (fun e => hne (kl_inj e))).1 z]; exact q1 z, hcs f' hm hne, q2, q3⟩
  · rcases mem_putF.1 h1 with rfl | ⟨m1, n1⟩ <;> rcases mem_putF.1 h2 with rfl | ⟨m2, n2⟩
    · rfl
    · simp only [if_pos, if_neg n2] at e
      exact absurd e.symm (hg f2 m2 n2)
    · simp only [if_pos, if_neg n1] at e
      exact absurd e (hg f1 m1 n1)
    · simp only [if_neg n1, if_neg n2] at e
      exact hinj f1 m1 f2 m2 e
  · have hne : n ≠ f.name := fun e => hn f (mem_putF.2 (.inl rfl)) e.symm
    rw [(hoth _ (fun e => hne (kl_inj e))).2]
    exact hno n fun f' hf' e => hn f' (mem_putF.2 (.inr ⟨hf', fun e' => hne (e ▸ e')⟩)) e
theorem Shelf.keep {w w' : World} {B b : Nat} {fs : List FM} (h : Shelf w B b fs) (hb : Below w.heap.size w w') : Shelf w' B b fs := by
  obtain ⟨hB, D, G, hown, hsz, hin, hinj, hno⟩ := h
  refine ⟨hB, D, G, hown.kept (row := none) ⟨hb.os, hb.tape, hb.output, hb.size, fun k hk _ => hb.block k hk⟩ (by simp), hsz, fun f hf => ?_, hinj, hno⟩
  obtain ⟨q1, q2, q3, q4⟩ := hin f hf
  exact ⟨q1, q2.grow hb, q3, q4⟩
theorem Shelf.lt {w : World} {B b : Nat} {fs : List FM} (h : Shelf w B b fs) : b < w.heap.size := by
  obtain ⟨hB, D, G, hown, _⟩ := h
  exact hown.lt
end Go.Proofs.Ytkkpddcncpdnpaa
