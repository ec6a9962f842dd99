/- Texts of ours, laid one behind the other: SeE, SeF, SeG, SeH, SeI, SeJ, SeK. -/
import Derived.Test.YtfhcpehfmecpjaaPk2
import Derived.Conc.Own
import Derived.KernelRfl
set_option linter.unusedVariables false
set_option linter.unusedSimpArgs false
/- More of the model's operations that look at no channel: places, comparisons, arithmetic. -/
namespace Go.Proofs.Ytfhcpehfmecpjaa
open Go.Conc

section
variable (T : Tables) (f g : Array Func)
theorem cellOfByte_same : ∀ (d : Nat) (t : TypeId) (o : Nat), cellOfByte ⟨T, f⟩ d t o = cellOfByte ⟨T, g⟩ d t o
  | 0, _, _ => rfl
  | d + 1, t, o => by
    unfold cellOfByte
    simp only [cellOfByte_same d]
    rfl
theorem cellAtBytes_same (d : Nat) (e : TypeId) (c o : Nat) (b : Int) : cellAtBytes ⟨T, f⟩ d e c o b = cellAtBytes ⟨T, g⟩ d e c o b := by
  unfold cellAtBytes
  simp only [byteOfCell_same T f g, cellOfByte_same T f g]
  rfl
theorem depth_same : Program.depth ⟨T, f⟩ = Program.depth ⟨T, g⟩ := rfl
end
section
variable {α β γ : Type} {T : Tables} {f g : Array Func}
theorem t_ite {Q : α → Prop} {c : Prop} [Decidable c] {x y : Sem α} (h1 : Tame ⟨T, f⟩ ⟨T, g⟩ Q x) (h2 : Tame ⟨T, f⟩ ⟨T, g⟩ Q y) : Tame ⟨T, f⟩ ⟨T, g⟩ Q (if c then x else y) := by
  split <;> assumption
theorem t_forInL {l : List γ} {k : γ → β → Sem (ForInStep β)} (hk : ∀ a b, Tm T f g (k a b)) : ∀ b : β, Tm T f g (forIn l b k) := by
  induction l with
  | nil => exact fun _ => trivial
  | cons a l ih =>
    intro b
    rw [List.forIn_cons]
    refine tq (hk a b) (fun x => ?_)
    cases x with
    | done b => exact trivial
    | yield b => exact ih b
theorem t_forInA {l : Array γ} {k : γ → β → Sem (ForInStep β)} {b : β} (hk : ∀ a b, Tm T f g (k a b)) : Tm T f g (forIn l b k) := by
  rw [← Array.forIn_toList]
  exact t_forInL hk b
theorem t_mapML {l : List γ} {k : γ → Sem β} (hk : ∀ a, Tm T f g (k a)) : Tm T f g (l.mapM k) := by
  induction l with
  | nil => exact trivial
  | cons a l ih =>
    rw [List.mapM_cons]
    exact tq (hk a) (fun _ => tq ih (fun _ => trivial))
theorem t_mapMA {l : Array γ} {k : γ → Sem β} (hk : ∀ a, Tm T f g (k a)) : Tm T f g (l.mapM k) := by
  rw [Array.mapM_eq_mapM_toList]
  exact tm (t_mapML hk)
theorem t_foldlML {l : List γ} {k : β → γ → Sem β} (hk : ∀ b a, Tm T f g (k b a)) : ∀ b : β, Tm T f g (l.foldlM k b) := by
  induction l with
  | nil => exact fun _ => trivial
  | cons a l ih =>
    intro b
    rw [List.foldlM_cons]
    exact tq (hk b a) (fun x => ih x)
set_option maxHeartbeats 1000000 in
theorem t_byteOf (a : Addr) : Tm T f g (byteOf a) := by
  unfold byteOf
  split
  · exact trivial
  · refine t_prog ?_ ?_
    · simp only [byteOfCell_same T g f]
      rfl
    · refine tq (t_noView a) (fun _ => tq (t_shape _) (fun x => ?_))
      split
      · dsimp only
        split
        · exact trivial
        · split <;> exact trivial
      · exact trivial
set_option maxHeartbeats 1000000 in
theorem t_partAt (a : Addr) (n m : Nat) : Tm T f g (partAt a n m) := by
  unfold partAt
  repeat' first
    | (with_reducible exact tp _)
    | (with_reducible apply t_byteOf)
    | (with_reducible apply t_stuck)
    | (with_reducible apply t_unsupported)
    | (with_reducible apply q_stuck)
    | (with_reducible apply q_unsupported)
    | (with_reducible refine tq ?_ ?_)
    | (with_reducible refine tm ?_)
    | (with_reducible intro _)
    | (with_reducible refine t_ite ?_ ?_)
    | split
    | (dsimp only)
    | exact trivial
set_option maxHeartbeats 1000000 in
theorem t_fieldPlace (a : Addr) (x : Field) : Tm T f g (fieldPlace a x) := by
  unfold fieldPlace
  repeat' first
    | (with_reducible exact tp _)
    | (with_reducible apply t_sizeOf)
    | (with_reducible apply t_partAt)
    | (with_reducible apply t_stuck)
    | (with_reducible apply t_unsupported)
    | (with_reducible apply q_stuck)
    | (with_reducible apply q_unsupported)
    | (with_reducible refine tq ?_ ?_)
    | (with_reducible refine tm ?_)
    | (with_reducible intro _)
    | (with_reducible refine t_ite ?_ ?_)
    | split
    | (dsimp only)
    | exact trivial
set_option maxHeartbeats 1000000 in
theorem t_fieldAt (t : TypeId) (v : Value) (n : Nat) : Tm T f g (Instr.fieldAt t v n) := by
  unfold Instr.fieldAt
  repeat' first
    | (with_reducible exact tp _)
    | (with_reducible apply t_underlying)
    | (with_reducible apply t_sureAddr)
    | (with_reducible apply t_fieldPlace)
    | (with_reducible apply t_stuck)
    | (with_reducible apply t_unsupported)
    | (with_reducible apply q_stuck)
    | (with_reducible apply q_unsupported)
    | (with_reducible refine tq ?_ ?_)
    | (with_reducible refine tm ?_)
    | (with_reducible intro _)
    | (with_reducible refine t_ite ?_ ?_)
    | split
    | (dsimp only)
    | exact trivial
set_option maxHeartbeats 1000000 in
theorem t_build (t : TypeId) (v : Array (Nat × Value)) : Tm T f g (Instr.build t v) := by
  unfold Instr.build
  repeat' first
    | (with_reducible exact tp _)
    | (with_reducible apply t_zeroValue)
    | (with_reducible apply t_underlying)
    | (with_reducible apply t_sizeOf)
    | (with_reducible apply t_mapMA)
    | (with_reducible apply t_stuck)
    | (with_reducible apply t_unsupported)
    | (with_reducible apply q_stuck)
    | (with_reducible apply q_unsupported)
    | (with_reducible refine tq ?_ ?_)
    | (with_reducible refine tm ?_)
    | (with_reducible intro _)
    | (with_reducible refine t_ite ?_ ?_)
    | split
    | (dsimp only)
    | exact trivial
set_option maxHeartbeats 1000000 in
theorem t_arrayAt (t : TypeId) (v : Value) : Tm T f g (Instr.arrayAt t v) := by
  unfold Instr.arrayAt
  repeat' first
    | (with_reducible exact tp _)
    | (with_reducible apply t_underlying)
    | (with_reducible apply t_runtimePanic)
    | (with_reducible apply t_stuck)
    | (with_reducible apply t_unsupported)
    | (with_reducible apply q_stuck)
    | (with_reducible apply q_unsupported)
    | (with_reducible refine tq ?_ ?_)
    | (with_reducible refine tm ?_)
    | (with_reducible intro _)
    | (with_reducible refine t_ite ?_ ?_)
    | split
    | (dsimp only)
    | exact trivial
set_option maxHeartbeats 1000000 in
theorem t_intArith (op : BinOp) (k : IntKind) (x y : Int) : Tm T f g (Op.intArith op k x y) := by
  unfold Op.intArith
  repeat' first
    | (with_reducible exact tp _)
    | (with_reducible apply t_stuck)
    | (with_reducible apply t_unsupported)
    | (with_reducible apply q_stuck)
    | (with_reducible apply q_unsupported)
    | (with_reducible refine tq ?_ ?_)
    | (with_reducible refine tm ?_)
    | (with_reducible intro _)
    | (with_reducible refine t_ite ?_ ?_)
    | split
    | (dsimp only)
    | exact trivial
set_option maxHeartbeats 1000000 in
theorem t_intBits (op : BinOp) (k : IntKind) (x y : Int) : Tm T f g (Op.intBits op k x y) := by
  unfold Op.intBits
  repeat' first
    | (with_reducible exact tp _)
    | (with_reducible apply t_stuck)
    | (with_reducible apply t_unsupported)
    | (with_reducible apply q_stuck)
    | (with_reducible apply q_unsupported)
    | (with_reducible refine tq ?_ ?_)
    | (with_reducible refine tm ?_)
    | (with_reducible intro _)
    | (with_reducible refine t_ite ?_ ?_)
    | split
    | (dsimp only)
    | exact trivial
set_option maxHeartbeats 1000000 in
theorem t_intCmp (op : BinOp) (x y : Int) : Tm T f g (Op.intCmp op x y) := by
  unfold Op.intCmp
  repeat' first
    | (with_reducible exact tp _)
    | (with_reducible apply t_stuck)
    | (with_reducible apply t_unsupported)
    | (with_reducible apply q_stuck)
    | (with_reducible apply q_unsupported)
    | (with_reducible refine tq ?_ ?_)
    | (with_reducible refine tm ?_)
    | (with_reducible intro _)
    | (with_reducible refine t_ite ?_ ?_)
    | split
    | (dsimp only)
    | exact trivial
set_option maxHeartbeats 1000000 in
theorem t_intDiv (op : BinOp) (k : IntKind) (x y : Int) : Tm T f g (Op.intDiv op k x y) := by
  unfold Op.intDiv
  repeat' first
    | (with_reducible exact tp _)
    | (with_reducible apply t_runtimePanic)
    | (with_reducible apply t_stuck)
    | (with_reducible apply t_unsupported)
    | (with_reducible apply q_stuck)
    | (with_reducible apply q_unsupported)
    | (with_reducible refine tq ?_ ?_)
    | (with_reducible refine tm ?_)
    | (with_reducible intro _)
    | (with_reducible refine t_ite ?_ ?_)
    | split
    | (dsimp only)
    | exact trivial
set_option maxHeartbeats 1000000 in
theorem t_shift (op : BinOp) (k : IntKind) (x : Int) (l : IntKind) (y : Int) : Tm T f g (Op.shift op k x l y) := by
  unfold Op.shift
  repeat' first
    | (with_reducible exact tp _)
    | (with_reducible apply t_runtimePanic)
    | (with_reducible apply t_stuck)
    | (with_reducible apply t_unsupported)
    | (with_reducible apply q_stuck)
    | (with_reducible apply q_unsupported)
    | (with_reducible refine tq ?_ ?_)
    | (with_reducible refine tm ?_)
    | (with_reducible intro _)
    | (with_reducible refine t_ite ?_ ?_)
    | split
    | (dsimp only)
    | exact trivial
set_option maxHeartbeats 1000000 in
theorem t_floatArith (op : BinOp) (k : FloatKind) (x y : Nat) : Tm T f g (Op.floatArith op k x y) := by
  unfold Op.floatArith
  repeat' first
    | (with_reducible exact tp _)
    | (with_reducible apply t_choose)
    | (with_reducible apply t_stuck)
    | (with_reducible apply t_unsupported)
    | (with_reducible apply q_stuck)
    | (with_reducible apply q_unsupported)
    | (with_reducible refine tq ?_ ?_)
    | (with_reducible refine tm ?_)
    | (with_reducible intro _)
    | (with_reducible refine t_ite ?_ ?_)
    | split
    | (dsimp only)
    | exact trivial
set_option maxHeartbeats 1000000 in
theorem t_floatCmp (op : BinOp) (k : FloatKind) (x y : Nat) : Tm T f g (Op.floatCmp op k x y) := by
  unfold Op.floatCmp
  repeat' first
    | (with_reducible exact tp _)
    | (with_reducible apply t_stuck)
    | (with_reducible apply t_unsupported)
    | (with_reducible apply q_stuck)
    | (with_reducible apply q_unsupported)
    | (with_reducible refine tq ?_ ?_)
    | (with_reducible refine tm ?_)
    | (with_reducible intro _)
    | (with_reducible refine t_ite ?_ ?_)
    | split
    | (dsimp only)
    | exact trivial
set_option maxHeartbeats 1000000 in
theorem t_stringOp (op : BinOp) (x y : ByteArray) : Tm T f g (Op.stringOp op x y) := by
  unfold Op.stringOp
  repeat' first
    | (with_reducible exact tp _)
    | (with_reducible apply t_stuck)
    | (with_reducible apply t_unsupported)
    | (with_reducible apply q_stuck)
    | (with_reducible apply q_unsupported)
    | (with_reducible refine tq ?_ ?_)
    | (with_reducible refine tm ?_)
    | (with_reducible intro _)
    | (with_reducible refine t_ite ?_ ?_)
    | split
    | (dsimp only)
    | exact trivial
set_option maxHeartbeats 1000000 in
theorem t_unary (op : UnOp) (x : Value) : Tm T f g (Op.unary op x) := by
  unfold Op.unary
  repeat' first
    | (with_reducible exact tp _)
    | (with_reducible apply t_intArith)
    | (with_reducible apply t_intBits)
    | (with_reducible apply t_stuck)
    | (with_reducible apply t_unsupported)
    | (with_reducible apply q_stuck)
    | (with_reducible apply q_unsupported)
    | (with_reducible refine tq ?_ ?_)
    | (with_reducible refine tm ?_)
    | (with_reducible intro _)
    | (with_reducible refine t_ite ?_ ?_)
    | split
    | (dsimp only)
    | exact trivial
set_option maxHeartbeats 1000000 in
theorem t_floatToFloat (s : FloatKind) (x : Nat) (d : FloatKind) : Tm T f g (Conv.floatToFloat s x d) := by
  unfold Conv.floatToFloat
  repeat' first
    | (with_reducible exact tp _)
    | (with_reducible apply t_choose)
    | (with_reducible apply t_stuck)
    | (with_reducible apply t_unsupported)
    | (with_reducible apply q_stuck)
    | (with_reducible apply q_unsupported)
    | (with_reducible refine tq ?_ ?_)
    | (with_reducible refine tm ?_)
    | (with_reducible intro _)
    | (with_reducible refine t_ite ?_ ?_)
    | split
    | (dsimp only)
    | exact trivial
set_option maxHeartbeats 1000000 in
theorem t_carith (op : BinOp) (k : FloatKind) (x y : Nat) : Tm T f g (Op.Complex.arith op k x y) := by
  unfold Op.Complex.arith
  repeat' first
    | (with_reducible exact tp _)
    | (with_reducible apply t_floatArith)
    | (with_reducible apply t_stuck)
    | (with_reducible apply t_unsupported)
    | (with_reducible apply q_stuck)
    | (with_reducible apply q_unsupported)
    | (with_reducible refine tq ?_ ?_)
    | (with_reducible refine tm ?_)
    | (with_reducible intro _)
    | (with_reducible refine t_ite ?_ ?_)
    | split
    | (dsimp only)
    | exact trivial
set_option maxHeartbeats 1000000 in
theorem t_ccmp (op : BinOp) (k : FloatKind) (x y : Nat) : Tm T f g (Op.Complex.cmp op k x y) := by
  unfold Op.Complex.cmp
  repeat' first
    | (with_reducible exact tp _)
    | (with_reducible apply t_floatCmp)
    | (with_reducible apply t_asBool)
    | (with_reducible apply t_stuck)
    | (with_reducible apply t_unsupported)
    | (with_reducible apply q_stuck)
    | (with_reducible apply q_unsupported)
    | (with_reducible refine tq ?_ ?_)
    | (with_reducible refine tm ?_)
    | (with_reducible intro _)
    | (with_reducible refine t_ite ?_ ?_)
    | split
    | (dsimp only)
    | exact trivial
set_option maxHeartbeats 1000000 in
theorem t_cconv (k : FloatKind) (x : Nat) (l : FloatKind) : Tm T f g (Op.Complex.conv k x l) := by
  unfold Op.Complex.conv
  repeat' first
    | (with_reducible exact tp _)
    | (with_reducible apply t_floatToFloat)
    | (with_reducible apply t_stuck)
    | (with_reducible apply t_unsupported)
    | (with_reducible apply q_stuck)
    | (with_reducible apply q_unsupported)
    | (with_reducible refine tq ?_ ?_)
    | (with_reducible refine tm ?_)
    | (with_reducible intro _)
    | (with_reducible refine t_ite ?_ ?_)
    | split
    | (dsimp only)
    | exact trivial
set_option maxHeartbeats 1000000 in
theorem t_cadd (x y : Nat) : Tm T f g (Op.Complex.add x y) := by
  exact t_carith _ _ _ _
set_option maxHeartbeats 1000000 in
theorem t_csub (x y : Nat) : Tm T f g (Op.Complex.sub x y) := by
  exact t_carith _ _ _ _
set_option maxHeartbeats 1000000 in
theorem t_cmul (x y : Nat) : Tm T f g (Op.Complex.mul x y) := by
  exact t_carith _ _ _ _
set_option maxHeartbeats 1000000 in
theorem t_cquo (x y : Nat) : Tm T f g (Op.Complex.quo x y) := by
  exact t_carith _ _ _ _
set_option maxHeartbeats 1000000 in
theorem t_cproduct (a b c d : Nat) : Tm T f g (Op.Complex.product a b c d) := by
  unfold Op.Complex.product
  repeat' first
    | (with_reducible exact tp _)
    | (with_reducible apply t_cadd)
    | (with_reducible apply t_csub)
    | (with_reducible apply t_cmul)
    | (with_reducible apply t_cquo)
    | (with_reducible apply t_ccmp)
    | (with_reducible apply t_stuck)
    | (with_reducible apply t_unsupported)
    | (with_reducible apply q_stuck)
    | (with_reducible apply q_unsupported)
    | (with_reducible refine tq ?_ ?_)
    | (with_reducible refine tm ?_)
    | (with_reducible intro _)
    | (with_reducible refine t_ite ?_ ?_)
    | split
    | (dsimp only)
    | exact trivial
set_option maxHeartbeats 1000000 in
theorem t_ccorrected (s a b c d : Nat) : Tm T f g (Op.Complex.corrected s a b c d) := by
  unfold Op.Complex.corrected
  repeat' first
    | (with_reducible exact tp _)
    | (with_reducible apply t_cadd)
    | (with_reducible apply t_csub)
    | (with_reducible apply t_cmul)
    | (with_reducible apply t_cquo)
    | (with_reducible apply t_ccmp)
    | (with_reducible apply t_stuck)
    | (with_reducible apply t_unsupported)
    | (with_reducible apply q_stuck)
    | (with_reducible apply q_unsupported)
    | (with_reducible refine tq ?_ ?_)
    | (with_reducible refine tm ?_)
    | (with_reducible intro _)
    | (with_reducible refine t_ite ?_ ?_)
    | split
    | (dsimp only)
    | exact trivial
set_option maxHeartbeats 1000000 in
theorem t_cquotient (a b c d : Nat) : Tm T f g (Op.Complex.quotient a b c d) := by
  unfold Op.Complex.quotient
  repeat' first
    | (with_reducible exact tp _)
    | (with_reducible apply t_cadd)
    | (with_reducible apply t_csub)
    | (with_reducible apply t_cmul)
    | (with_reducible apply t_cquo)
    | (with_reducible apply t_ccmp)
    | (with_reducible apply t_ccorrected)
    | (with_reducible apply t_stuck)
    | (with_reducible apply t_unsupported)
    | (with_reducible apply q_stuck)
    | (with_reducible apply q_unsupported)
    | (with_reducible refine tq ?_ ?_)
    | (with_reducible refine tm ?_)
    | (with_reducible intro _)
    | (with_reducible refine t_ite ?_ ?_)
    | split
    | (dsimp only)
    | exact trivial
set_option maxHeartbeats 1000000 in
theorem t_complexOp (op : BinOp) (k : FloatKind) (a b c d : Nat) : Tm T f g (Op.complexOp op k a b c d) := by
  unfold Op.complexOp
  repeat' first
    | (with_reducible exact tp _)
    | (with_reducible apply t_carith)
    | (with_reducible apply t_cconv)
    | (with_reducible apply t_ccmp)
    | (with_reducible apply t_cproduct)
    | (with_reducible apply t_cquotient)
    | (with_reducible apply t_stuck)
    | (with_reducible apply t_unsupported)
    | (with_reducible apply q_stuck)
    | (with_reducible apply q_unsupported)
    | (with_reducible refine tq ?_ ?_)
    | (with_reducible refine tm ?_)
    | (with_reducible intro _)
    | (with_reducible refine t_ite ?_ ?_)
    | split
    | (dsimp only)
    | exact trivial
set_option maxHeartbeats 1000000 in
theorem t_unsafeAdd (a : Array TypeId) (t : TypeId) (v : Array Value) : Tm T f g (Builtin.unsafeAdd_ a t v) := by
  unfold Builtin.unsafeAdd_
  obtain ⟨l⟩ := v
  rcases l with _ | ⟨x, _ | ⟨y, _ | ⟨z, l⟩⟩⟩ <;> try exact trivial
  cases x <;> try exact trivial
  refine tq (t_asInt _) (fun n => ?_)
  dsimp only
  split
  · split
    · refine tq (t_viewAt _) (fun x => ?_)
      split <;> exact trivial
    · exact trivial
  · split
    · exact trivial
    · split
      · refine tq (t_shape _) (fun x => ?_)
        split
        · refine t_prog ?_ ?_
          · simp only [cellAtBytes_same T g f]
            rfl
          · split <;> exact trivial
        · exact trivial
      · exact trivial
set_option maxHeartbeats 1000000 in
theorem t_movedNumber (t : TypeId) (x y : Value) : Tm T f g (movedNumber t x y) := by
  unfold movedNumber
  rcases x with _ | _ | _ | _ | _ | (_ | n) | _ | _ | _ | _ | _ | _ | _ | _ | _
  all_goals dsimp only
  all_goals refine tq (t_underlying _) (fun d => ?_)
  all_goals
    repeat' first
      | exact trivial
      | (with_reducible exact t_unsafeAdd _ _ _)
      | (with_reducible exact t_asNumber _ _)
      | (with_reducible exact t_behindNumber _)
      | (refine tq (t_behindNumber _) (fun _ => ?_))
      | (refine tq (t_unsafeAdd _ _ _) (fun _ => ?_))
      | split
set_option maxHeartbeats 1000000 in
theorem t_movedPointer (t : TypeId) (x y : Value) : Tm T f g (movedPointer t x y) := by
  unfold movedPointer
  dsimp only
  split
  · refine tq (t_numberAt _) (fun a => ?_)
    split
    · exact trivial
    · exact t_unsafeAdd _ _ _
  · exact t_unsafeAdd _ _ _
set_option maxHeartbeats 1000000 in
theorem t_twoPlaces (a b : Addr) : Tm T f g (Op.twoPlaces a b) := by
  unfold Op.twoPlaces
  refine t_prog rfl ?_
  split
  · exact trivial
  · exact tq (t_byteOf _) (fun _ => tq (t_byteOf _) (fun _ => trivial))
set_option maxHeartbeats 1000000 in
theorem t_addrSub (k : IntKind) (a b : Addr) : Tm T f g (Op.addrSub k a b) := by
  unfold Op.addrSub
  repeat' first
    | (with_reducible exact tp _)
    | (with_reducible apply t_twoPlaces)
    | (with_reducible apply t_stuck)
    | (with_reducible apply t_unsupported)
    | (with_reducible apply q_stuck)
    | (with_reducible apply q_unsupported)
    | (with_reducible refine tq ?_ ?_)
    | (with_reducible refine tm ?_)
    | (with_reducible intro _)
    | (with_reducible refine t_ite ?_ ?_)
    | split
    | (dsimp only)
    | exact trivial
set_option maxHeartbeats 1000000 in
theorem t_addrCmp (op : BinOp) (a b : Addr) : Tm T f g (Op.addrCmp op a b) := by
  unfold Op.addrCmp
  repeat' first
    | (with_reducible exact tp _)
    | (with_reducible apply t_twoPlaces)
    | (with_reducible apply t_stuck)
    | (with_reducible apply t_unsupported)
    | (with_reducible apply q_stuck)
    | (with_reducible apply q_unsupported)
    | (with_reducible refine tq ?_ ?_)
    | (with_reducible refine tm ?_)
    | (with_reducible intro _)
    | (with_reducible refine t_ite ?_ ?_)
    | split
    | (dsimp only)
    | exact trivial
set_option maxHeartbeats 1000000 in
theorem t_addrMod (k : IntKind) (a : Addr) (n : Int) : Tm T f g (Op.addrMod k a n) := by
  unfold Op.addrMod
  refine tq (t_shape _) (fun x => ?_)
  split
  · refine tq (t_typeInfo _) (fun i => ?_)
    dsimp only
    split
    · exact trivial
    · exact tq (t_byteOf _) (fun _ => trivial)
  · exact trivial
/-- Types at which two values are compared without looking into them. -/
def flat : TypeDesc → Bool
  | .bool | .int _ | .string => true
  | _ => false
set_option maxHeartbeats 2000000 in
theorem t_equal {t : TypeId} {d : TypeDesc} (hu : (⟨T, f⟩ : Program).underlying t = some d) (hd : flat d = true) (x y : Value) : Tm T f g (Op.equal t x y) := by
  show Tm T f g (Op.equalIn (9999 + 1) t x y)
  unfold Op.equalIn
  unfold underlying
  simp only [bind_assoc]
  refine t_prog rfl ?_
  simp only [hu, pure_bind]
  cases d <;> first | (cases hd; done) | skip
  all_goals rcases x with _ | ⟨k, n⟩ | _ | _ | _ | (_ | a) | _ | _ | _ | _ | _ | _ | _ | _ | _
  all_goals rcases y with _ | ⟨k', n'⟩ | _ | _ | _ | (_ | b) | _ | _ | _ | _ | _ | _ | _ | _ | _
  all_goals first | exact trivial | skip
  all_goals first | (split <;> exact trivial) | (dsimp only; split <;> exact trivial) | skip
  all_goals first | (refine tq (t_behindNumber _) (fun p => ?_); skip) | (split <;> first | exact trivial | contradiction | (simp_all; done)) | skip
  refine tq (t_behindNumber _) (fun q => t_prog (by dsimp only) ?_)
  split
  · exact tq (t_byteOf _) (fun _ => tq (t_byteOf _) (fun _ => trivial))
  · refine tq (t_typeInfo _) (fun i => ?_)
    split
    · split <;> exact trivial
    · exact trivial
theorem eqGuardType_same (T : Tables) (f g : Array Func) : ∀ (d : Nat) (t : TypeId), Program.eqGuardType ⟨T, f⟩ d t = Program.eqGuardType ⟨T, g⟩ d t
  | 0, _ => rfl
  | d + 1, t => by
    unfold Program.eqGuardType
    simp only [eqGuardType_same T f g d]
    rfl
theorem t_eqGuardIn {t : TypeId} {d : TypeDesc} (hu : (⟨T, f⟩ : Program).underlying t = some d) (hd : flat d = true) (x y : Value) : Tm T f g (Op.eqGuardIn Op.maxDepth t x y) := by
  show Tm T f g (Op.eqGuardIn (9999 + 1) t x y)
  unfold Op.eqGuardIn
  unfold underlying
  simp only [bind_assoc]
  refine t_prog rfl ?_
  simp only [hu, pure_bind]
  cases d <;> first | (cases hd; done) | exact trivial
theorem t_eqGuard {op : BinOp} {t : TypeId} {d : TypeDesc} (hu : (⟨T, f⟩ : Program).underlying t = some d) (hd : flat d = true) (x y : Operand) (a b : Value) : Tm T f g (eqGuard op t x y a b) := by
  have h1 := fun x y => t_eqGuardIn (g := g) hu hd x y
  unfold eqGuard
  cases op <;> first | exact trivial | skip
  all_goals cases a <;> first | exact trivial | skip
  all_goals cases b <;> first | exact trivial | skip
  all_goals
    repeat' first
      | contradiction
      | (with_reducible apply h1)
      | (with_reducible exact tp _)
      | (with_reducible apply t_unsupported)
      | (with_reducible refine t_prog ?_ ?_)
      | (simp only [eqGuardType_same T g f]; done)
      | (simp only [eqGuardType_same T g f]; rfl)
      | (with_reducible refine tq ?_ ?_)
      | (with_reducible intro _)
      | split
      | (dsimp only)
set_option maxHeartbeats 4000000 in
theorem t_binOp {op : BinOp} {t : TypeId} (he : ∀ x y, Tm T f g (Op.equal t x y)) (x y : Value) : Tm T f g (binOp op t x y) := by
  unfold binOp
  repeat' first
    | (with_reducible exact tp _)
    | (with_reducible apply he)
    | (with_reducible apply t_shift)
    | (with_reducible apply t_intArith)
    | (with_reducible apply t_intDiv)
    | (with_reducible apply t_intBits)
    | (with_reducible apply t_intCmp)
    | (with_reducible apply t_floatArith)
    | (with_reducible apply t_floatCmp)
    | (with_reducible apply t_complexOp)
    | (with_reducible apply t_stringOp)
    | (with_reducible apply t_underlying)
    | (with_reducible apply t_movedPointer)
    | (with_reducible apply t_movedNumber)
    | (with_reducible apply t_behindNumber)
    | (with_reducible apply t_addrSub)
    | (with_reducible apply t_addrCmp)
    | (with_reducible apply t_addrMod)
    | (with_reducible apply t_stuck)
    | (with_reducible apply t_unsupported)
    | (with_reducible apply q_stuck)
    | (with_reducible apply q_unsupported)
    | (with_reducible refine tq ?_ ?_)
    | (with_reducible refine tm ?_)
    | (with_reducible intro _)
    | (with_reducible refine t_ite ?_ ?_)
    | split
    | (dsimp only)
    | exact trivial
set_option maxHeartbeats 4000000 in
theorem t_binOp' {op : BinOp} {t : TypeId} (h1 : op ≠ .eql) (h2 : op ≠ .neq) (x y : Value) : Tm T f g (binOp op t x y) := by
  unfold binOp
  repeat' first
    | (with_reducible exact tp _)
    | (with_reducible apply t_shift)
    | (with_reducible apply t_intArith)
    | (with_reducible apply t_intDiv)
    | (with_reducible apply t_intBits)
    | (with_reducible apply t_intCmp)
    | (with_reducible apply t_floatArith)
    | (with_reducible apply t_floatCmp)
    | (with_reducible apply t_complexOp)
    | (with_reducible apply t_stringOp)
    | (with_reducible apply t_underlying)
    | (with_reducible apply t_movedPointer)
    | (with_reducible apply t_movedNumber)
    | (with_reducible apply t_behindNumber)
    | (with_reducible apply t_addrSub)
    | (with_reducible apply t_addrCmp)
    | (with_reducible apply t_addrMod)
    | (with_reducible apply t_stuck)
    | (with_reducible apply t_unsupported)
    | (with_reducible apply q_stuck)
    | (with_reducible apply q_unsupported)
    | (with_reducible refine tq ?_ ?_)
    | (with_reducible refine tm ?_)
    | (with_reducible intro _)
    | (with_reducible refine t_ite ?_ ?_)
    | split
    | (dsimp only)
    | exact trivial
    | (exact absurd rfl h1)
    | (exact absurd rfl h2)
end
end Go.Proofs.Ytfhcpehfmecpjaa
/- Conversions and builtins that look at no channel. -/
namespace Go.Proofs.Ytfhcpehfmecpjaa
open Go.Conc

section
variable (T : Tables) (f g : Array Func)
set_option maxRecDepth 20000 in
theorem alikeButTags_same : ∀ (d : Nat) (t u : TypeId), Program.alikeButTags ⟨T, f⟩ d t u = Program.alikeButTags ⟨T, g⟩ d t u
  | 0, _, _ => rfl
  | d + 1, t, u => by
    unfold Program.alikeButTags
    simp only [alikeButTags_same d]
theorem stoodInHeld_same (t : TypeId) : Program.stoodInHeld ⟨T, f⟩ t = Program.stoodInHeld ⟨T, g⟩ t := by
  unfold Program.stoodInHeld Program.stoodInAs
  simp only [alikeButTags_same T f g]
  rfl
theorem sameLayout_same : ∀ (d : Nat) (t u : TypeId), sameLayout ⟨T, f⟩ d t u = sameLayout ⟨T, g⟩ d t u
  | 0, _, _ => rfl
  | d + 1, t, u => by
    unfold sameLayout
    simp only [sameLayout_same d, stoodInHeld_same T f g]
    rfl
theorem rowAt_same (fits : TypeId → Bool) : ∀ (d : Nat) (e : TypeId) (c o n : Nat), rowAt ⟨T, f⟩ fits d e c o n = rowAt ⟨T, g⟩ fits d e c o n
  | 0, _, _, _, _ => rfl
  | d + 1, e, c, o, n => by
    unfold rowAt
    simp only [rowAt_same fits d, stoodInHeld_same T f g]
    rfl
theorem liesAt_same : ∀ (d : Nat) (e : TypeId) (c o : Nat) (u : TypeId) (n : Nat), liesAt ⟨T, f⟩ d e c o u n = liesAt ⟨T, g⟩ d e c o u n
  | 0, _, _, _, _, _ => rfl
  | d + 1, e, c, o, u, n => by
    unfold liesAt
    simp only [liesAt_same d, rowAt_same T f g, sameLayout_same T f g]
    rfl
end
section
variable {α β γ : Type} {T : Tables} {f g : Array Func}
set_option maxHeartbeats 1000000 in
theorem t_variablesAt (a : Addr) (u : TypeId) (n : Nat) : Tm T f g (variablesAt a u n) := by
  unfold variablesAt
  refine t_prog ?_ (tq (t_shape _) (fun x => ?_))
  · simp only [liesAt_same T g f]
    rfl
  · split <;> exact trivial
theorem t_loadBytes : ∀ (n : Nat) (a : Addr) (acc : ByteArray), Tm T f g (loadBytes a acc n)
  | 0, _, _ => trivial
  | n + 1, a, acc => by
    unfold loadBytes
    refine tq (t_load _ _) (fun v => ?_)
    split
    · exact t_loadBytes n _ _
    · exact trivial
set_option maxHeartbeats 1000000 in
theorem t_unsafeString (a : Array TypeId) (t : TypeId) (v : Array Value) : Tm T f g (Builtin.unsafeString_ a t v) := by
  unfold Builtin.unsafeString_
  obtain ⟨l⟩ := v
  rcases l with _ | ⟨x, _ | ⟨y, _ | ⟨z, l⟩⟩⟩ <;> try exact trivial
  rcases x with _ | _ | _ | _ | _ | p | _ | _ | _ | _ | _ | _ | _ | _ | _ <;> try exact trivial
  refine tq (t_asInt _) (fun n => ?_)
  cases a[0]? with
  | none => exact trivial
  | some pt =>
    cases p <;> dsimp only
    all_goals
      repeat' first
        | (with_reducible exact tp _)
        | (with_reducible apply t_runtimePanic)
        | (with_reducible apply t_variablesAt)
        | (with_reducible apply t_elemOf)
        | (with_reducible apply t_loadBytes)
        | (with_reducible apply t_freeze)
        | (with_reducible apply t_stuck)
        | (with_reducible apply t_unsupported)
        | (with_reducible apply q_stuck)
        | (with_reducible apply q_unsupported)
        | (with_reducible refine tq ?_ ?_)
        | (with_reducible refine tm ?_)
        | (with_reducible intro _)
        | (with_reducible refine t_ite ?_ ?_)
        | split
        | (dsimp only)
        | exact trivial
set_option maxHeartbeats 1000000 in
theorem t_lenOf (v : Value) : Tm T f g (Builtin.lenOf v) := by
  unfold Builtin.lenOf
  repeat' first
    | (with_reducible exact tp _)
    | (with_reducible apply t_stuck)
    | (with_reducible apply t_unsupported)
    | (with_reducible apply q_stuck)
    | (with_reducible apply q_unsupported)
    | (with_reducible refine tq ?_ ?_)
    | (with_reducible refine tm ?_)
    | (with_reducible intro _)
    | (with_reducible refine t_ite ?_ ?_)
    | split
    | (dsimp only)
    | exact trivial
set_option maxHeartbeats 1000000 in
theorem t_firstCells (s n : Nat) (v : Value) : Tm T f g (Builtin.firstCells s n v) := by
  unfold Builtin.firstCells
  repeat' first
    | (with_reducible exact tp _)
    | (with_reducible apply t_loadCells)
    | (with_reducible apply t_stuck)
    | (with_reducible apply t_unsupported)
    | (with_reducible apply q_stuck)
    | (with_reducible apply q_unsupported)
    | (with_reducible refine tq ?_ ?_)
    | (with_reducible refine tm ?_)
    | (with_reducible intro _)
    | (with_reducible refine t_ite ?_ ?_)
    | split
    | (dsimp only)
    | exact trivial
set_option maxHeartbeats 1000000 in
theorem t_holdsCells (a : Addr) (n : Nat) : Tm T f g (Builtin.holdsCells a n) := by
  unfold Builtin.holdsCells
  repeat' first
    | (with_reducible exact tp _)
    | (with_reducible apply t_shape)
    | (with_reducible apply t_stuck)
    | (with_reducible apply t_unsupported)
    | (with_reducible apply q_stuck)
    | (with_reducible apply q_unsupported)
    | (with_reducible refine tq ?_ ?_)
    | (with_reducible refine tm ?_)
    | (with_reducible intro _)
    | (with_reducible refine t_ite ?_ ?_)
    | split
    | (dsimp only)
    | exact trivial
set_option maxHeartbeats 1000000 in
theorem t_mayShare (s l n : Nat) (b : Option Addr) (v : Value) : Tm T f g (Builtin.mayShare s l n b v) := by
  unfold Builtin.mayShare
  repeat' first
    | (with_reducible exact tp _)
    | (with_reducible apply t_holdsCells)
    | (with_reducible apply t_frozen)
    | (with_reducible apply t_stuck)
    | (with_reducible apply t_unsupported)
    | (with_reducible apply q_stuck)
    | (with_reducible apply q_unsupported)
    | (with_reducible refine tq ?_ ?_)
    | (with_reducible refine tm ?_)
    | (with_reducible intro _)
    | (with_reducible refine t_ite ?_ ?_)
    | split
    | (dsimp only)
    | exact trivial
set_option maxHeartbeats 1000000 in
theorem t_append (a : Array TypeId) (t : TypeId) (v : Array Value) : Tm T f g (Builtin.append_ a t v) := by
  unfold Builtin.append_
  repeat' first
    | (with_reducible exact tp _)
    | (with_reducible apply t_underlying)
    | (with_reducible apply t_sizeOf)
    | (with_reducible apply t_asInt)
    | (with_reducible apply t_runtimePanic)
    | (with_reducible apply t_typeInfo)
    | (with_reducible apply t_choose)
    | (with_reducible apply t_lenOf)
    | (with_reducible apply t_firstCells)
    | (with_reducible apply t_zeroValue)
    | (with_reducible apply t_storeCells)
    | (with_reducible apply t_mayShare)
    | (with_reducible apply t_mark)
    | (with_reducible apply t_askRoom)
    | (with_reducible apply t_newRow)
    | (with_reducible apply t_stuck)
    | (with_reducible apply t_unsupported)
    | (with_reducible apply q_stuck)
    | (with_reducible apply q_unsupported)
    | (with_reducible refine tq ?_ ?_)
    | (with_reducible refine tm ?_)
    | (with_reducible intro _)
    | (with_reducible refine t_ite ?_ ?_)
    | split
    | (dsimp only)
    | exact trivial
set_option maxHeartbeats 1000000 in
theorem t_copy (a : Array TypeId) (t : TypeId) (v : Array Value) : Tm T f g (Builtin.copy_ a t v) := by
  unfold Builtin.copy_
  repeat' first
    | (with_reducible exact tp _)
    | (with_reducible apply t_underlying)
    | (with_reducible apply t_sizeOf)
    | (with_reducible apply t_lenOf)
    | (with_reducible apply t_firstCells)
    | (with_reducible apply t_storeCells)
    | (with_reducible apply t_stuck)
    | (with_reducible apply t_unsupported)
    | (with_reducible apply q_stuck)
    | (with_reducible apply q_unsupported)
    | (with_reducible refine tq ?_ ?_)
    | (with_reducible refine tm ?_)
    | (with_reducible intro _)
    | (with_reducible refine t_ite ?_ ?_)
    | split
    | (dsimp only)
    | exact trivial
set_option maxHeartbeats 1000000 in
theorem t_min2 (x y : Value) : Tm T f g (Builtin.min2 x y) := by
  unfold Builtin.min2
  repeat' first
    | (with_reducible exact tp _)
    | (with_reducible apply t_choose)
    | (with_reducible apply t_asBool)
    | (with_reducible apply t_stringOp)
    | (with_reducible apply t_stuck)
    | (with_reducible apply t_unsupported)
    | (with_reducible apply q_stuck)
    | (with_reducible apply q_unsupported)
    | (with_reducible refine tq ?_ ?_)
    | (with_reducible refine tm ?_)
    | (with_reducible intro _)
    | (with_reducible refine t_ite ?_ ?_)
    | split
    | (dsimp only)
    | exact trivial
set_option maxHeartbeats 1000000 in
theorem t_max2 (x y : Value) : Tm T f g (Builtin.max2 x y) := by
  unfold Builtin.max2
  repeat' first
    | (with_reducible exact tp _)
    | (with_reducible apply t_choose)
    | (with_reducible apply t_asBool)
    | (with_reducible apply t_stringOp)
    | (with_reducible apply t_stuck)
    | (with_reducible apply t_unsupported)
    | (with_reducible apply q_stuck)
    | (with_reducible apply q_unsupported)
    | (with_reducible refine tq ?_ ?_)
    | (with_reducible refine tm ?_)
    | (with_reducible intro _)
    | (with_reducible refine t_ite ?_ ?_)
    | split
    | (dsimp only)
    | exact trivial
set_option maxHeartbeats 1000000 in
theorem t_min (a : Array TypeId) (t : TypeId) (v : Array Value) : Tm T f g (Builtin.min_ a t v) := by
  unfold Builtin.min_
  split
  · exact trivial
  · exact t_foldlML (fun b a => t_min2 b a) _
set_option maxHeartbeats 1000000 in
theorem t_max (a : Array TypeId) (t : TypeId) (v : Array Value) : Tm T f g (Builtin.max_ a t v) := by
  unfold Builtin.max_
  split
  · exact trivial
  · exact t_foldlML (fun b a => t_max2 b a) _
set_option maxHeartbeats 1000000 in
theorem t_bytesToString (v : Value) : Tm T f g (Conv.bytesToString v) := by
  unfold Conv.bytesToString
  split
  · exact trivial
  · refine tq (t_loadCells _ _) (fun cs => tq (t_forInA (fun a b => ?_)) (fun s => trivial))
    split <;> exact trivial
  · exact trivial
set_option maxHeartbeats 1000000 in
theorem t_stringToBytes (e : TypeId) (s : ByteArray) : Tm T f g (Conv.stringToBytes e s) := by
  unfold Conv.stringToBytes
  repeat' first
    | (with_reducible exact tp _)
    | (with_reducible apply t_choose)
    | (with_reducible apply t_newRow)
    | (with_reducible apply t_markStringish)
    | (with_reducible apply t_stuck)
    | (with_reducible apply t_unsupported)
    | (with_reducible apply q_stuck)
    | (with_reducible apply q_unsupported)
    | (with_reducible refine tq ?_ ?_)
    | (with_reducible refine tm ?_)
    | (with_reducible intro _)
    | (with_reducible refine t_ite ?_ ?_)
    | split
    | (dsimp only)
    | exact trivial
end
end Go.Proofs.Ytfhcpehfmecpjaa
/- Which operations of a program look at no channel: a test that the kernel reckons ('okOp'), and what it is worth ('ok_tame'). -/
namespace Go.Proofs.Ytfhcpehfmecpjaa
open Go.Conc

def isU8 : Option TypeDesc → Bool
  | some (.int .u8) => true
  | _ => false
def isRow : Option TypeDesc → Bool
  | some .string => true
  | some (.slice _) => true
  | _ => false
theorem isU8_is {o : Option TypeDesc} (h : isU8 o = true) : o = some (.int .u8) := by
  unfold isU8 at h
  split at h
  · rfl
  · cases h
/-- Conversions that are taken. -/
def okConv (P : Program) (src dst : TypeId) : Bool :=
  match P.underlying src, P.underlying dst with
  | some (.int _), some (.int _) => true
  | some .string, some .string => true
  | some .string, some (.slice e) => isU8 (P.underlying e)
  | some (.slice e), some .string => isU8 (P.underlying e)
  | _, _ => false
/-- Builtins that are taken. -/
def okBuiltin (P : Program) (b : Builtin) (ts : Array TypeId) : Bool :=
  match b with
  | .append | .copy | .min | .max | .unsafeString => true
  | .len => match ts[0]? with
    | some t => isRow (P.underlying t)
    | none => false
  | _ => false
/-- AN OPERATION THAT LOOKS AT NO CHANNEL; the functions that it calls are of S. -/
def okOp (P : Program) (S : List FuncId) (o : Op) : Bool :=
  match o with
  | .move _ | .assign _ | .pick _ _ _ | .alloc _ | .box _ _ | .build _ _ | .buildSlice _ _ _ | .load _ _ | .store _ _ _ | .unOp _ _ _ | .makeSlice _ _ _
  | .slice _ _ _ _ _ | .fieldAddr _ _ _ | .field _ _ _ | .indexAddr _ _ _ | .index _ _ _ | .extract _ _ | .nilCheck _ => true
  | .binOp op t _ _ _ => (op != .eql && op != .neq) || ((P.underlying t).map flat).getD false
  | .convert src dst _ => okConv P src dst
  | .call { callee := .builtin b, argTypes := ts, .. } => okBuiltin P b ts
  | .call { callee := .value (.func f), .. } => S.contains f
  | _ => false
/-- What such an operation comes to. -/
def Plainly (S : List FuncId) : Next → Prop
  | .value _ | .skip => True
  | .enter f _ => f ∈ S
  | _ => False
/-- A function with a body, the same in both programs. -/
def Known (fs gs : Array Func) (f : FuncId) : Prop := gs[f]? = fs[f]? ∧ ∃ fn, fs[f]? = some fn ∧ fn.body.isNone = false ∧ (fn.name == "runtime.NumGoroutine") = false

section
variable {T : Tables} {f g : Array Func} {S : List FuncId}
theorem okv {s : Sem Value} (h : Tm T f g s) : Tame ⟨T, f⟩ ⟨T, g⟩ (Plainly S) (do pure (.value (← s))) := tq h (fun _ => trivial)
theorem oku {s : Sem Unit} (h : Tm T f g s) : Tame ⟨T, f⟩ ⟨T, g⟩ (Plainly S) (do s; pure .skip) := tq h (fun _ => trivial)
theorem t_floatToInt (k : FloatKind) (b : Nat) (d : IntKind) : Tm T f g (Conv.floatToInt k b d) := by
  unfold Conv.floatToInt
  dsimp only
  split
  · exact t_ite (tp _) (tq (t_choose _) (fun _ => tp _))
  · exact tq (t_choose _) (fun _ => tp _)
theorem t_convert {src dst : TypeId} (h : okConv ⟨T, f⟩ src dst = true) (x : Value) : Tm T f g (convert src dst x) := by
  unfold okConv at h
  unfold convert
  unfold underlying
  simp only [bind_assoc]
  refine t_prog rfl ?_
  split at h
  case h_5 => cases h
  all_goals
    rename_i h1 h2
    simp only [h1, pure_bind]
    refine t_prog rfl ?_
    simp only [h2, pure_bind]
  · cases x <;> first | exact trivial | skip
    · exact t_floatToInt _ _ _
    · rename_i a
      cases a <;> exact trivial
  · cases x <;> exact trivial
  · have h3 := isU8_is h
    cases x <;> first | exact trivial | skip
    · refine t_prog rfl ?_
      simp only [h3, pure_bind]
      exact t_stringToBytes _ _
    · rename_i a _ _
      cases a <;> exact trivial
  · have h3 := isU8_is h
    cases x <;> first | exact trivial | skip
    all_goals
      refine t_prog rfl ?_
      simp only [h3, pure_bind]
      exact t_bytesToString _
theorem t_len {ts : Array TypeId} {t : TypeId} {v : Array Value} (h : okBuiltin ⟨T, f⟩ .len ts = true) : Tm T f g (Builtin.len_ ts t v) := by
  unfold okBuiltin at h
  dsimp only at h
  unfold Builtin.len_
  cases h0 : ts[0]? with
  | none => rw [h0] at h; cases h
  | some t' =>
    rw [h0] at h
    dsimp only at h
    cases v[0]? with
    | none => exact trivial
    | some x =>
      dsimp only
      unfold underlying
      simp only [bind_assoc]
      refine t_prog rfl ?_
      unfold isRow at h
      split at h
      case h_3 => cases h
      all_goals
        rename_i h1
        simp only [h1, pure_bind]
        cases x <;> exact trivial
theorem t_eqGuard' {op : BinOp} {t : TypeId} (h1 : ¬ op = .eql) (h2 : ¬ op = .neq) (x y : Operand) (a b : Value) : Tm T f g (eqGuard op t x y a b) := by
  unfold eqGuard
  cases op <;> first | exact trivial | exact absurd rfl h1 | exact absurd rfl h2
theorem t_followBlind : ∀ (l : List FieldStep) (t : TypeId) (x : Option Value), Tm T f g (followBlind l t x)
  | [], _, _ => trivial
  | st :: rest, t, x => by
    have ih := fun t x => t_followBlind rest t x
    unfold followBlind
    refine tq (t_underlying _) (fun d => ?_)
    repeat' first
      | exact trivial
      | exact ih _ _
      | (with_reducible apply t_stuck)
      | (with_reducible refine tq (t_part _ _ _) ?_)
      | (with_reducible intro _)
      | split
theorem t_nilAhead : ∀ (n : Nat) (t : TypeId) (v : Value) (name : String), Tm T f g (nilAhead n t v name)
  | 0, _, _, _ => trivial
  | n + 1, t, v, name => by
    have ih := fun t v => t_nilAhead n t v name
    unfold nilAhead
    refine tq (t_typeInfo _) (fun d => ?_)
    repeat' first
      | exact trivial
      | exact ih _ _
      | (with_reducible apply t_stuck)
      | (with_reducible refine tq (t_followBlind _ _ _) ?_)
      | (with_reducible refine tq (t_underlying _) ?_)
      | (with_reducible intro _)
      | split
theorem t_nilCheck (v : Value) : Tame ⟨T, f⟩ ⟨T, g⟩ (Plainly S) (match v with
    | .pointer none | .nilIface | .nilFunc => runtimePanic .nilDeref
    | .func (.method name) first captured =>
      match (first[0]? : Option Value) with
      | some .nilIface => runtimePanic .nilDeref
      | some (.iface t w) => do
        if (← nilAhead ((← program).types.size + Made.depth) t w name) != some false then
          unsupported (.noEntry "op/nilCheck.the method's receiver behind this interface value is a nil pointer, or cannot be seen to be none, and the arguments act or may panic (ledger 612)")
        pure (.value (.func (.method name) first captured))
      | _ => pure (.value (.func (.method name) first captured))
    | x => pure (.value x)) := by
  split
  · exact t_runtimePanic _
  · exact t_runtimePanic _
  · exact t_runtimePanic _
  · split
    · exact t_runtimePanic _
    · refine t_prog rfl ?_
      refine tq (t_nilAhead _ _ _ _) (fun r => ?_)
      split
      · exact trivial
      · exact trivial
    · exact trivial
  · exact trivial
theorem ok_tame {o : Oper} {ρ : Operand → Value} (hρ : ∀ x, ρ (.func x) = .func (.func x) #[] #[]) (h : okOp ⟨T, f⟩ S o.op = true) (hS : ∀ x ∈ S, Known f g x) : Tame ⟨T, f⟩ ⟨T, g⟩ (Plainly S) (execOp ρ o) := by
  unfold okOp at h
  unfold execOp
  split at h
  all_goals rename_i e
  all_goals simp only [e]
  all_goals first
    | exact trivial
    | exact tq (t_asBool _) (fun _ => trivial)
    | exact okv (t_alloc _ _ _)
    | exact okv (t_box _ _)
    | exact okv (t_build _ _)
    | exact okv (t_buildSlice _ _ _)
    | exact okv (t_loadAt _ _)
    | exact oku (t_storeAt _ _ _)
    | exact okv (t_unary _ _)
    | exact okv (t_makeSlice _ _ _)
    | exact okv (t_sliceAt _ _ _ _ _)
    | exact okv (t_fieldAt _ _ _)
    | exact okv (t_field _ _ _)
    | exact okv (t_indexAt _ _ _)
    | exact okv (t_index _ _ _)
    | exact okv (t_extract _ _)
    | exact okv (t_convert h _)
    | exact t_nilCheck _
    | skip
  · refine okv ?_
    simp only [Bool.or_eq_true, Bool.and_eq_true, bne_iff_ne, ne_eq] at h
    rcases h with ⟨h1, h2⟩ | h
    · exact tq (t_eqGuard' h1 h2 _ _ _ _) (fun _ => t_binOp' h1 h2 _ _)
    · rename_i t _ _ _
      cases hu : (⟨T, f⟩ : Program).underlying t with
      | none => rw [hu] at h; cases h
      | some d =>
        rw [hu] at h
        exact tq (t_eqGuard hu h _ _ _ _) (fun _ => t_binOp (fun x y => t_equal hu h x y) _ _)
  · rename_i b as ts
    show Tame ⟨T, f⟩ ⟨T, g⟩ (Plainly S) (builtin b ts o.type _ _)
    unfold builtin
    cases b <;> first
      | (cases h; done)
      | exact okv (t_append _ _ _)
      | exact okv (t_copy _ _ _)
      | exact okv (t_min _ _ _)
      | exact okv (t_max _ _ _)
      | exact okv (t_unsafeString _ _ _)
      | exact okv (t_len h)
  · rename_i x as ts
    have hx : x ∈ S := by simpa using h
    obtain ⟨k1, fn, k2, k3, k4⟩ := hS x hx
    have e1 : resolve ρ { callee := .value (.func x), args := as, argTypes := ts } o.type = pure { target := .fn (.func x) #[], args := #[] ++ as.map ρ } := by
      show Deferred.ofValue (ρ (.func x)) (as.map ρ) = _
      rw [hρ]
      rfl
    rw [e1]
    show Tame ⟨T, f⟩ ⟨T, g⟩ (Plainly S) (callFunc x _)
    unfold callFunc
    refine t_prog ?_ ?_
    · dsimp only
      rw [k1]
    · dsimp only
      rw [k2]
      dsimp only
      rw [k4, if_neg (by simp), k3, if_neg (by simp)]
      exact hx
  · cases h
end
end Go.Proofs.Ytfhcpehfmecpjaa
/- Frames whose code looks at no channel but where it says so: the test of code, and a frame's moves of control. -/
namespace Go.Proofs.Ytfhcpehfmecpjaa
open Go.Conc

/-- Code of which every operation passes the test. -/
def okCode (ok : Op → Bool) : Code → Bool
  | .skip | .ret | .exit _ => true
  | .region _ ops _ => ops.all (fun o => ok o.op)
  | .seq a b => okCode ok a && okCode ok b
  | .cond _ a b => okCode ok a && okCode ok b
  | .block _ c => okCode ok c
  | .loop c => okCode ok c
  | .scope c => okCode ok c
  | _ => false
def okItem (ok : Op → Bool) : Item → Bool
  | .code c => okCode ok c
  | .inBlock _ => true
  | .inLoop c => okCode ok c
  | .inScope c => okCode ok c
  | .inRegion ops _ => ops.all (fun o => ok o.op)
  | _ => false
/-- AN ORDINARY FRAME of one of the functions S. -/
structure Ord (ok : Op → Bool) (S : List FuncId) (fr : Frame) : Prop where
  fn : fr.fn ∈ S
  items : ∀ i ∈ fr.todo, okItem ok i = true
  defers : fr.defers = []
  kind : fr.kind = .normal
  round : fr.roundOf = none
/-- The record of a goroutine that runs. -/
abbrev Gr (fr : Frame) (cs : List Frame) : Goroutine := { frame := fr, callers := cs, status := .running, dying := none }

/-- Where a move of control leads. -/
def Ctl (fr : Frame) (k' : List Item) : Prop :=
  match fr.todo with
  | .inBlock _ :: k | .inScope _ :: k | .inRegion _ [] :: k | .code .skip :: k => k' = k
  | .inLoop c :: k | .code (.loop c) :: k => k' = .code c :: .inLoop c :: k
  | .code (.seq a b) :: k => k' = .code a :: .code b :: k
  | .code (.cond c a b) :: k => ∃ v, fr.eval c = .bool v ∧ k' = .code (if v then a else b) :: k
  | .code (.block id c) :: k => k' = .code c :: .inBlock id :: k
  | .code (.scope c) :: k => k' = .code c :: .inScope c :: k
  | .code (.exit id) :: k => exitTo id k = some k'
  | .code (.region _ ops d) :: k => ∃ l, (d = false → l = List.range ops.size) ∧ k' = .inRegion ops l :: k
  | _ => False
/-- What a step may make of the frame that runs. -/
inductive Move (fr : Frame) : Frame → Prop
  | same : Move fr fr
  | fin (v : Value) {ops : Array Oper} {i : Nat} {r : List Nat} {k : List Item} (hm : fr.mode = .run) (ht : fr.todo = .inRegion ops (i :: r) :: k) : Move fr (fr.finish v)
  | to (k' : List Item) (hm : fr.mode = .run) (hc : Ctl fr k') : Move fr { fr with todo := k' }
  | ret (hm : fr.mode = .run) (ht : fr.todo = [] ∨ ∃ k, fr.todo = .code .ret :: k) : Move fr { fr with mode := .returning }
  | raise (ch : List PanicEntry) : Move fr (fr.raise ch)
/-- What a step may make of the frames. -/
inductive Near (P : Program) (S : List FuncId) (fr : Frame) : List Frame → Frame → List Frame → Prop
  | move {tops : List Frame} {fr' : Frame} (h : Move fr fr') : Near P S fr tops fr' tops
  | enter {tops : List Frame} (x : FuncId) (as : Array Value) {o : Oper} {ops : Array Oper} {i : Nat} {r : List Nat} {k : List Item} (hm : fr.mode = .run) (ht : fr.todo = .inRegion ops (i :: r) :: k) (ho : ops[i]? = some o) (hk : okOp P S o.op = true)
      (hx : ∀ S' : List FuncId, (∀ y ∈ S', y ∈ S) → okOp P S' o.op = true → x ∈ S') : Near P S fr tops (Frame.enter P x as .normal) (fr :: tops)
  | back {t : Frame} {tops : List Frame} (v : Value) (hm : fr.mode = .returning) : Near P S fr (t :: tops) (t.finish v) tops
  | up {t : Frame} {tops : List Frame} (ch : List PanicEntry) (hm : fr.mode = .panicking ch) : Near P S fr (t :: tops) (t.raise ch) tops
section
variable {ok : Op → Bool} {S : List FuncId} {fr : Frame}
theorem Ord.todo (h : Ord ok S fr) {k : List Item} (hk : ∀ i ∈ k, okItem ok i = true) : Ord ok S { fr with todo := k } := ⟨h.fn, hk, h.defers, h.kind, h.round⟩
theorem exitTo_sub {id : Nat} : ∀ {k k' : List Item}, exitTo id k = some k' → ∀ i ∈ k', i ∈ k
  | [], _, h => by cases h
  | x :: k, k', h => by
    intro i hi
    have rest : ∀ {k'}, exitTo id k = some k' → ∀ i ∈ k', i ∈ x :: k := fun h' i hi => .tail _ (exitTo_sub h' i hi)
    cases x
    case inBlock id' =>
      unfold exitTo at h
      split at h
      · cases h; exact .tail _ hi
      · exact rest h i hi
    all_goals exact rest h i hi
theorem Ord.finish (h : Ord ok S fr) (v : Value) : Ord ok S (fr.finish v) := by
  unfold Frame.finish
  split
  · rename_i ops i rest k e
    refine ⟨h.fn, ?_, h.defers, h.kind, h.round⟩
    intro x hx
    have hi := h.items
    rw [e] at hi
    rcases List.mem_cons.1 hx with rfl | hx
    · exact hi (.inRegion ops (i :: rest)) (.head _)
    · exact hi x (.tail _ hx)
  all_goals first
    | exact h
    | (rename_i e
       have hi := h.items
       rw [e] at hi
       have := hi _ (.head _)
       simp [okItem] at this)
/-- MOVES OF CONTROL: neither a region that draws its order nor an operation that is wanted stands next. -/
theorem ctl (h : Ord ok S fr) (hm : fr.mode = .run)
    (hd : ∀ id ops k, fr.todo ≠ .code (.region id ops true) :: k)
    (ho : ∀ ops i r k, fr.todo = .inRegion ops (i :: r) :: k → ((ops[i]?).map (Region.wanted · (yielded ops fr.tmps))).getD false = false) :
    (∃ fr', Ord ok S fr' ∧ Move fr fr' ∧ (fr'.mode = .run ∨ fr'.mode = .returning) ∧ ∀ P main cs w, stepG P main (Gr fr cs) w = .go (Gr fr' cs) w #[]) ∨ (∀ P main cs w, ∃ o w' es, stepG P main (Gr fr cs) w = .ended o w' es) := by
  obtain ⟨fn, tmps, todo, defers, mode, kind, round⟩ := fr
  simp only at hm
  subst hm
  have hr : round = none := h.round
  subst hr
  have hi := h.items
  simp only at hd ho hi
  have to : ∀ k, (∀ i ∈ k, okItem ok i = true) → Ord ok S ⟨fn, tmps, k, defers, .run, kind, none⟩ := fun k hk => ⟨h.fn, hk, h.defers, h.kind, rfl⟩
  have ret : Ord ok S ⟨fn, tmps, todo, defers, .returning, kind, none⟩ := ⟨h.fn, hi, h.defers, h.kind, rfl⟩
  cases todo with
  | nil => exact .inl ⟨_, ret, .ret rfl (.inl rfl), .inr rfl, fun _ _ _ _ => rfl⟩
  | cons x k =>
    have hx := hi x (.head _)
    have hk : ∀ i ∈ k, okItem ok i = true := fun i q => hi i (.tail _ q)
    have two : ∀ a b, okItem ok a = true → okItem ok b = true → ∀ i ∈ a :: b :: k, okItem ok i = true := by
      intro a b ha hb i q
      rcases List.mem_cons.1 q with rfl | q
      · exact ha
      · rcases List.mem_cons.1 q with rfl | q
        · exact hb
        · exact hk i q
    have one : ∀ a, okItem ok a = true → ∀ i ∈ a :: k, okItem ok i = true := by
      intro a ha i q
      rcases List.mem_cons.1 q with rfl | q
      · exact ha
      · exact hk i q
    cases x with
    | inBlock id => exact .inl ⟨_, to k hk, .to _ rfl rfl, .inl rfl, fun _ _ _ _ => rfl⟩
    | inScope c => exact .inl ⟨_, to k hk, .to _ rfl rfl, .inl rfl, fun _ _ _ _ => rfl⟩
    | inLoop c => exact .inl ⟨_, to _ (two (.code c) (.inLoop c) hx hx), .to _ rfl rfl, .inl rfl, fun _ _ _ _ => rfl⟩
    | inRegion ops l =>
      cases l with
      | nil => exact .inl ⟨_, to k hk, .to _ rfl rfl, .inl rfl, fun _ _ _ _ => rfl⟩
      | cons i r =>
        have hw := ho ops i r k rfl
        refine .inl ⟨_, h.finish undef, .fin _ rfl rfl, .inl ?_, fun P main cs w => ?_⟩
        · simp [Frame.finish]
        · simp [stepG, stepG.exec, hw]
    | inRangeFunc l => cases hx
    | endRangeFunc l => cases hx
    | beginRound => cases hx
    | call => cases hx
    | extern => cases hx
    | code c =>
      cases c with
      | skip => exact .inl ⟨_, to k hk, .to _ rfl rfl, .inl rfl, fun _ _ _ _ => rfl⟩
      | ret => exact .inl ⟨_, ret, .ret rfl (.inr ⟨_, rfl⟩), .inr rfl, fun _ _ _ _ => rfl⟩
      | seq a b =>
        simp only [okItem, okCode, Bool.and_eq_true] at hx
        exact .inl ⟨_, to _ (two (.code a) (.code b) hx.1 hx.2), .to _ rfl rfl, .inl rfl, fun _ _ _ _ => rfl⟩
      | cond c a b =>
        simp only [okItem, okCode, Bool.and_eq_true] at hx
        cases hc : (⟨fn, tmps, .code (.cond c a b) :: k, defers, .run, kind, none⟩ : Frame).eval c with
        | bool v =>
          refine .inl ⟨_, to _ (one (.code (if v then a else b)) (by cases v; exact hx.2; exact hx.1)), .to _ rfl ⟨v, hc, rfl⟩, .inl rfl, fun P main cs w => ?_⟩
          simp [stepG, stepG.exec, hc]
        | _ => exact .inr (fun P main cs w => by simp [stepG, stepG.exec, hc])
      | block id c => exact .inl ⟨_, to _ (two (.code c) (.inBlock id) hx rfl), .to _ rfl rfl, .inl rfl, fun _ _ _ _ => rfl⟩
      | loop c => exact .inl ⟨_, to _ (two (.code c) (.inLoop c) hx hx), .to _ rfl rfl, .inl rfl, fun _ _ _ _ => rfl⟩
      | scope c => exact .inl ⟨_, to _ (two (.code c) (.inScope c) hx hx), .to _ rfl rfl, .inl rfl, fun _ _ _ _ => rfl⟩
      | exit id =>
        cases he : exitTo id k with
        | none => exact .inr (fun P main cs w => by simp [stepG, stepG.exec, he])
        | some k' =>
          refine .inl ⟨_, to k' (fun i q => hk i (exitTo_sub he i q)), .to _ rfl he, .inl rfl, fun P main cs w => ?_⟩
          simp [stepG, stepG.exec, he]
      | region id ops d =>
        cases d with
        | true => exact absurd rfl (hd id ops k)
        | false => exact .inl ⟨_, to _ (one (.inRegion ops (List.range ops.size)) hx), .to _ rfl ⟨_, fun _ => rfl, rfl⟩, .inl rfl, fun _ _ _ _ => rfl⟩
      | _ => cases hx
end
end Go.Proofs.Ytfhcpehfmecpjaa
/- A step of an ordinary frame, under two programs in two worlds that part in channels and tape alone. -/
namespace Go.Proofs.Ytfhcpehfmecpjaa
open Go.Conc

/-- What a step may list. -/
def Quietly (es : Array Event) : Prop := ∀ e ∈ es, Mm e
theorem seen_fold (q : Bool) (st : Bool × Array Event → Event → Bool × Array Event) (hst : ∀ acc e, Mm e → st (q, acc) e = (q, if q && !e.sync then acc else acc.push e)) : ∀ (l : List Event) (acc : Array Event), (∀ e ∈ l, Mm e) →
    l.foldl st (q, acc) = (q, l.foldl (init := acc) fun a e => if q && !e.sync then a else a.push e)
  | [], _, _ => rfl
  | e :: l, acc, h => by
    simp only [List.foldl_cons]
    rw [hst acc e (h e (.head _))]
    exact seen_fold q st hst l _ (fun x hx => h x (.tail _ hx))
theorem seen_is {P : Program} {fn : FuncId} {es : Array Event} (h : Quietly es) : seen P fn es = es.toList.foldl (init := #[]) fun a e => if (P.funcs[fn]?).any (·.norace) && !e.sync then a else a.push e := by
  unfold seen
  dsimp only
  rw [← Array.foldl_toList]
  refine congrArg Prod.snd (seen_fold _ _ (fun acc e he => ?_) es.toList #[] (fun e he => h e (Array.mem_toList_iff.1 he)))
  dsimp only
  cases hloc : e.loc with
  | mark m =>
    have := he.1 m hloc
    subst this
    rfl
  | _ => rfl
theorem fold_mem (q : Bool) : ∀ (l : List Event) (acc : Array Event) (e : Event), e ∈ l.foldl (init := acc) (fun a e => if q && !e.sync then a else a.push e) → e ∈ acc ∨ e ∈ l
  | [], _, _, h => .inl h
  | x :: l, acc, e, h => by
    rcases fold_mem q l _ e h with h | h
    · dsimp only at h
      split at h
      · exact .inl h
      · rcases Array.mem_push.1 h with h | rfl
        · exact .inl h
        · exact .inr (.head _)
    · exact .inr (.tail _ h)
theorem seen_quiet {P : Program} {fn : FuncId} {es : Array Event} (h : Quietly es) : Quietly (seen P fn es) := by
  intro e he
  rw [seen_is h] at he
  rcases fold_mem _ _ _ e he with q | q
  · simp at q
  · exact h e (Array.mem_toList_iff.1 q)
theorem seen_two {P P₁ : Program} {fn : FuncId} {es : Array Event} (h : Quietly es) (hf : P₁.funcs[fn]? = P.funcs[fn]?) : seen P₁ fn es = seen P fn es := by
  rw [seen_is h, seen_is h, hf]

/-- ONE STEP, IN BOTH. -/
def Both (y : Option Nat) (ok : Op → Bool) (S : List FuncId) (P P₁ : Program) (main main₁ : Bool) (fr : Frame) (tops cs cs₁ : List Frame) (w w₁ : World) : Prop :=
  (∃ fr' tops' w' k es, stepG P main (Gr fr (tops ++ cs)) w = .go (Gr fr' (tops' ++ cs)) w' es ∧ Near P S fr tops fr' tops' ∧ Ord ok S fr' ∧ (∀ t ∈ tops', Ord ok S t ∧ t.mode = .run) ∧ w'.tape = w.tape ∧ w'.drawn = w.drawn + k ∧ Quietly es ∧ Kc w w' ∧
    (Agree k w w₁ → ∃ w₁', stepG P₁ main₁ (Gr fr (tops ++ cs₁)) w₁ = .go (Gr fr' (tops' ++ cs₁)) w₁' es ∧ Sim y w' w₁' ∧ w₁'.tape = w₁.tape ∧ w₁'.drawn = w₁.drawn + k ∧ Kc w₁ w₁')) ∨
  (∃ o w' es, stepG P main (Gr fr (tops ++ cs)) w = .ended o w' es)

section
variable {y : Option Nat} {ok : Op → Bool} {S : List FuncId} {T : Tables} {f g : Array Func} {fr : Frame} {tops cs cs₁ : List Frame} {w w₁ : World} {main main₁ : Bool}
theorem Quietly.nil : Quietly #[] := fun _ h => by simp at h
/-- A region that draws its order. -/
theorem both_draw (h : Ord ok S fr) (hm : fr.mode = .run) {id : Nat} {ops : Array Oper} {k : List Item} (ht : fr.todo = .code (.region id ops true) :: k) (hS : Sim y w w₁) (htops : ∀ t ∈ tops, Ord ok S t ∧ t.mode = .run) :
    Both y ok S ⟨T, f⟩ ⟨T, g⟩ main main₁ fr tops cs cs₁ w w₁ := by
  have step : ∀ (main : Bool) (F : Array Func) (c : List Frame) (v : World), stepG ⟨T, F⟩ main (Gr fr c) v = .go (Gr { fr with todo := .inRegion ops (Region.schedule ((⟨T, f⟩ : Program).follows .mixedOrders) ops (v.tape v.drawn (.order fr.fn id))) :: k } c) { v with drawn := v.drawn + 1 } #[] := by
    intro main F c v
    obtain ⟨fn, tmps, todo, defers, mode, kind, round⟩ := fr
    simp only at hm ht
    subst hm ht
    first | (simp [stepG, stepG.exec, choose, Sem.run, Question.forced, Question.cut]; done) | (simp [stepG, stepG.exec, choose, Sem.run, Question.forced, Question.cut]; rfl)
  refine .inl ⟨_, tops, _, 1, #[], step _ f (tops ++ cs) w, .move (.to _ hm (by unfold Ctl; rw [ht]; exact ⟨_, (fun h => nomatch h), rfl⟩)), ?_, htops, rfl, rfl, Quietly.nil, Kc.draw _ _, fun A => ?_⟩
  · refine h.todo (fun i hi => ?_)
    have hi' := h.items
    rw [ht] at hi'
    rcases List.mem_cons.1 hi with rfl | hi
    · exact hi' (.code (.region id ops true)) (.head _)
    · exact hi' i (.tail _ hi)
  · refine ⟨{ w₁ with drawn := w₁.drawn + 1 }, ?_, hS.draw _ _, rfl, rfl, Kc.draw _ _⟩
    rw [step _ g (tops ++ cs₁) w₁]
    have := A 0 (by omega) (.order fr.fn id)
    rw [Nat.add_zero, Nat.add_zero] at this
    rw [this]
theorem both_ctl (h : Ord ok S fr) (hm : fr.mode = .run) (hd : ∀ id ops k, fr.todo ≠ .code (.region id ops true) :: k)
    (ho : ∀ ops i r k, fr.todo = .inRegion ops (i :: r) :: k → ((ops[i]?).map (Region.wanted · (yielded ops fr.tmps))).getD false = false) (hS : Sim y w w₁) (htops : ∀ t ∈ tops, Ord ok S t ∧ t.mode = .run) :
    Both y ok S ⟨T, f⟩ ⟨T, g⟩ main main₁ fr tops cs cs₁ w w₁ := by
  rcases ctl h hm hd ho with ⟨fr', h', mv, _, q⟩ | q
  · exact .inl ⟨fr', tops, w, 0, #[], q _ _ _ _, .move mv, h', htops, rfl, rfl, Quietly.nil, Kc.refl _, fun _ => ⟨w₁, q _ _ _ _, hS, rfl, rfl, Kc.refl _⟩⟩
  · exact .inr (q _ _ _ _)
theorem both_panic (h : Ord ok S fr) (hK : Known f g fr.fn) {ch : List PanicEntry} (hm : fr.mode = .panicking ch) (hS : Sim y w w₁) (htops : ∀ t ∈ tops, Ord ok S t ∧ t.mode = .run) (hne : tops ≠ []) :
    Both y ok S ⟨T, f⟩ ⟨T, g⟩ main main₁ fr tops cs cs₁ w w₁ := by
  cases tops with
  | nil => exact absurd rfl hne
  | cons c rest =>
    obtain ⟨k1, fn, k2, _⟩ := hK
    have hc := htops c (.head _)
    have step : ∀ (main : Bool) (F : Array Func) (x : List Frame) (v : World), F[fr.fn]? = some fn → stepG ⟨T, F⟩ main (Gr fr (c :: rest ++ x)) v = .go (Gr (c.raise ch) (rest ++ x)) v #[] := by
      intro main F x v hF
      have hdf := h.defers
      obtain ⟨fn', tmps, todo, defers, mode, kind, round⟩ := fr
      simp only at hm hdf hF
      subst hm hdf
      simp [stepG, unwind, Frame.catches, hF]
    refine .inl ⟨c.raise ch, rest, w, 0, #[], step _ f cs w k2, .up ch hm, ?_, fun t ht => htops t (.tail _ ht), rfl, rfl, Quietly.nil, Kc.refl _, fun _ => ⟨w₁, step _ g cs₁ w₁ (k1.trans k2), hS, rfl, rfl, Kc.refl _⟩⟩
    unfold Frame.raise
    split <;> exact ⟨hc.1.fn, hc.1.items, hc.1.defers, hc.1.kind, hc.1.round⟩
end
end Go.Proofs.Ytfhcpehfmecpjaa
/- A step of an ordinary frame: an operation, a return; all together. -/
namespace Go.Proofs.Ytfhcpehfmecpjaa
open Go.Conc

section
variable {z : Option Nat} {ok : Op → Bool} {S : List FuncId} {T : Tables} {f g : Array Func} {fr : Frame} {tops cs cs₁ : List Frame} {w w₁ : World} {main main₁ : Bool}
theorem t_results (fn : Func) (tmps : Array Value) : Tm T f g (results fn tmps) := by
  unfold results
  refine tq (t_mapMA (fun r => ?_)) (fun _ => trivial)
  split
  · exact trivial
  · exact tq (t_asAddr _) (fun _ => t_loadVar _ _)
theorem quiet_of {es : Array Event} (h : Mild #[] es) : Quietly es := by
  intro e he
  rcases h e he with q | q
  · simp at q
  · exact q
theorem both_return (h : Ord ok S fr) (hK : Known f g fr.fn) (hm : fr.mode = .returning) (hS : Sim z w w₁) (htops : ∀ t ∈ tops, Ord ok S t ∧ t.mode = .run) (hne : tops ≠ []) :
    Both z ok S ⟨T, f⟩ ⟨T, g⟩ main main₁ fr tops cs cs₁ w w₁ := by
  cases tops with
  | nil => exact absurd rfl hne
  | cons c rest =>
    obtain ⟨k1, fn, k2, _⟩ := hK
    have hc := htops c (.head _)
    have step : ∀ (main : Bool) (F : Array Func) (x : List Frame) (v : World), F[fr.fn]? = some fn → stepG ⟨T, F⟩ main (Gr fr (c :: rest ++ x)) v = GStep.after (seen ⟨T, F⟩ fr.fn ((results fn fr.tmps).runT ⟨T, F⟩ v #[]).2) (match ((results fn fr.tmps).runT ⟨T, F⟩ v #[]).1 with
        | .ok a v' => .go (Gr (c.finish a) (rest ++ x)) v'
        | .halt (.stuck s) v' => .ended (.stuck s (fr.pos ⟨T, F⟩)) v'
        | .halt _ v' => .ended (.stuck "return: the result variables cannot be read" (fr.pos ⟨T, F⟩)) v') := by
      intro main F x v hF
      have hdf := h.defers
      have hkd := h.kind
      obtain ⟨fn', tmps, todo, defers, mode, kind, round⟩ := fr
      simp only at hm hdf hF hkd
      subst hm hdf hkd
      simp only [stepG, unwind, hF, List.cons_append, doReturn]
      rfl
    rcases tame_run (results fn fr.tmps) w w₁ #[] (t_results (T := T) (f := f) (g := g) fn fr.tmps) hS with ⟨a, w', k, es', e, _, t, d, m, kc, x⟩ | ⟨a, w', k, es', e, q, t, d, m, kc, x⟩
    · have hq := quiet_of m
      refine .inl ⟨c.finish a, rest, w', k, seen ⟨T, f⟩ fr.fn es', ?_, .back a hm, hc.1.finish a, fun t ht => htops t (.tail _ ht), t, d, seen_quiet hq, kc, fun A => ?_⟩
      · rw [step _ f cs w k2, e]; simp [GStep.after]
      · obtain ⟨w₁', e', s', t', d', kc'⟩ := x A
        refine ⟨w₁', ?_, s', t', d', kc'⟩
        rw [step _ g cs₁ w₁ (k1.trans k2), e', seen_two (P := ⟨T, f⟩) hq k1]; simp [GStep.after]
    · refine .inr ?_
      rw [step _ f cs w k2, e]
      cases a <;> exact ⟨_, _, _, rfl⟩
/-- What an operation comes to. -/
theorem step_op {P : Program} {x : List Frame} {v : World} (hr : fr.roundOf = none) (hm : fr.mode = .run) {ops : Array Oper} {i : Nat} {r : List Nat} {k : List Item} {o : Oper} (ht : fr.todo = .inRegion ops (i :: r) :: k) (ho : ops[i]? = some o)
    (hw : Region.wanted o (yielded ops fr.tmps) = true) : stepG P main (Gr fr x) v = stepG.apply P true fr x none (execOp fr.eval o) v := by
  obtain ⟨fn', tmps, todo, defers, mode, kind, round⟩ := fr
  simp only at hr hm ht hw
  subst hr hm ht
  simp [stepG, stepG.exec, stepG.oper, Frame.oper?, ho, hw]
theorem early_go {F : Array Func} {x : List Frame} {v : World} {b : Nat} (hst : (⟨T, F⟩ : Program).stepOf b = none) :
    (((⟨T, F⟩ : Program).follows .staticDataAhead = false ∧ ∃ c e, v.heap[b]? = some (.pending c e) ∧ early ⟨T, F⟩ fr x none b v = .go (Gr fr x) { v with heap := v.heap.setIfInBounds b (.cells c e) } #[]) ∨ ∃ o w' es, early ⟨T, F⟩ fr x none b v = .ended o w' es) := by
  unfold early
  dsimp only
  cases hf : (⟨T, F⟩ : Program).follows .staticDataAhead with
  | true =>
    right
    simp only [Bool.not_true, Bool.false_eq_true, if_false, hst]
    exact ⟨_, _, _, rfl⟩
  | false =>
    simp only [Bool.not_false, if_true]
    split
    · rename_i c e h
      exact .inl ⟨by first | trivial | rfl, c, e, h, rfl⟩
    · exact .inr ⟨_, _, _, rfl⟩
/-- A function of S, with code that passes the test. -/
def Fine (ok : Op → Bool) (fs gs : Array Func) (x : FuncId) : Prop := Known fs gs x ∧ ∀ fn, fs[x]? = some fn → okCode ok (fn.body.getD .skip) = true
theorem enter_two {x : FuncId} {as : Array Value} {kd : CallKind} (h : g[x]? = f[x]?) : Frame.enter ⟨T, g⟩ x as kd = Frame.enter ⟨T, f⟩ x as kd := by
  unfold Frame.enter
  dsimp only
  rw [h]
theorem enter_ord {x : FuncId} {as : Array Value} (hx : x ∈ S) (h : Fine ok f g x) : Ord ok S (Frame.enter ⟨T, f⟩ x as .normal) := by
  obtain ⟨⟨_, fn, k2, k3, _⟩, hc⟩ := h
  have := hc fn k2
  refine ⟨hx, ?_, rfl, rfl, rfl⟩
  unfold Frame.enter
  dsimp only
  rw [k2]
  cases hb : fn.body with
  | none => rw [hb] at k3; cases k3
  | some c =>
    rw [hb] at this
    intro i hi
    simp only [Option.bind_some, hb, Option.getD_some, List.mem_singleton] at hi
    subst hi
    exact this
theorem both_op (h : Ord ok S fr) (hm : fr.mode = .run) {ops : Array Oper} {i : Nat} {r : List Nat} {k : List Item} {o : Oper} (ht : fr.todo = .inRegion ops (i :: r) :: k) (ho : ops[i]? = some o)
    (hw : Region.wanted o (yielded ops fr.tmps) = true) (hok : okOp ⟨T, f⟩ S o.op = true) (hF : ∀ x ∈ S, Fine ok f g x) (hst : ∀ b, (⟨T, f⟩ : Program).stepOf b = none) (hst₁ : ∀ b, (⟨T, g⟩ : Program).stepOf b = none)
    (hS : Sim z w w₁) (htops : ∀ t ∈ tops, Ord ok S t ∧ t.mode = .run) : Both z ok S ⟨T, f⟩ ⟨T, g⟩ main main₁ fr tops cs cs₁ w w₁ := by
  have hK := (hF fr.fn h.fn).1
  have e0 : ∀ (main : Bool) (F : Array Func) (x : List Frame) (v : World), stepG ⟨T, F⟩ main (Gr fr x) v = stepG.apply ⟨T, F⟩ true fr x none (execOp fr.eval o) v := fun _ F x v => step_op h.round hm ht ho hw
  have hkd := h.kind
  unfold Both
  simp only [e0]
  have run := tame_run (execOp fr.eval o) w w₁ #[] (ok_tame (T := T) (f := f) (g := g) (S := S) (fun _ => rfl) hok (fun x hx => (hF x hx).1)) hS
  generalize hs : execOp fr.eval o = s at run ⊢
  have kd : (match fr.todo with | .call _ true _ _ :: _ => CallKind.wrapped | _ => .normal) = .normal := by rw [ht]
  rcases run with ⟨a, w', k', es', e, q, t, d, m, kc, x⟩ | ⟨a, w', k', es', e, q, t, d, m, kc, x⟩
  · have hq := quiet_of m
    cases a with
    | value v =>
      refine .inl ⟨fr.finish v, tops, w', k', seen ⟨T, f⟩ fr.fn es', ?_, .move (.fin v hm ht), h.finish v, htops, t, d, seen_quiet hq, kc, fun A => ?_⟩
      · simp [-Sem.runT_eq, stepG.apply, e, GStep.after, hkd]
      · obtain ⟨w₁', e', s', t', d', kc'⟩ := x A
        refine ⟨w₁', ?_, s', t', d', kc'⟩
        simp [-Sem.runT_eq, stepG.apply, e', GStep.after, hkd, seen_two (P := ⟨T, f⟩) (P₁ := ⟨T, g⟩) hq hK.1]
    | skip =>
      refine .inl ⟨fr.finish undef, tops, w', k', seen ⟨T, f⟩ fr.fn es', ?_, .move (.fin undef hm ht), h.finish undef, htops, t, d, seen_quiet hq, kc, fun A => ?_⟩
      · simp [-Sem.runT_eq, stepG.apply, e, GStep.after, hkd]
      · obtain ⟨w₁', e', s', t', d', kc'⟩ := x A
        refine ⟨w₁', ?_, s', t', d', kc'⟩
        simp [-Sem.runT_eq, stepG.apply, e', GStep.after, hkd, seen_two (P := ⟨T, f⟩) (P₁ := ⟨T, g⟩) hq hK.1]
    | enter y as =>
      have hy : y ∈ S := q
      refine .inl ⟨Frame.enter ⟨T, f⟩ y as .normal, fr :: tops, w', k', seen ⟨T, f⟩ fr.fn es', ?_, (.enter _ _ hm ht ho hok (fun S' hS' hk' => by
        rcases tame_run (execOp fr.eval o) w w₁ #[] (ok_tame (T := T) (f := f) (g := g) (S := S') (fun _ => rfl) hk' (fun x hx => (hF x (hS' x hx)).1)) hS with ⟨a, _, _, _, e', q', _⟩ | ⟨a, _, _, _, e', _⟩
        · rw [hs, e] at e'
          cases e'
          exact q'
        · rw [hs, e] at e'
          cases e')), enter_ord hy (hF y hy), ?_, t, d, seen_quiet hq, kc, fun A => ?_⟩
      · simp [-Sem.runT_eq, stepG.apply, e, GStep.after, hkd, ht]
      · intro u hu
        rcases List.mem_cons.1 hu with rfl | hu
        · exact ⟨h, hm⟩
        · exact htops u hu
      · obtain ⟨w₁', e', s', t', d', kc'⟩ := x A
        refine ⟨w₁', ?_, s', t', d', kc'⟩
        simp [-Sem.runT_eq, stepG.apply, e', GStep.after, hkd, ht, seen_two (P := ⟨T, f⟩) (P₁ := ⟨T, g⟩) hq hK.1, enter_two (hF y hy).1.1]
    | _ => exact q.elim
  · have hq := quiet_of m
    have raise : ∀ ch, Ord ok S (fr.raise ch) := by
      intro ch
      unfold Frame.raise
      split <;> exact ⟨h.fn, h.items, h.defers, h.kind, h.round⟩
    cases a with
    | panic v =>
      refine .inl ⟨fr.raise [{ v, recovered := false }], tops, w', k', seen ⟨T, f⟩ fr.fn es', ?_, .move (.raise _), raise _, htops, t, d, seen_quiet hq, kc, fun A => ?_⟩
      · simp [-Sem.runT_eq, stepG.apply, e, GStep.after, hkd]
      · obtain ⟨w₁', e', s', t', d', kc'⟩ := x A
        refine ⟨w₁', ?_, s', t', d', kc'⟩
        simp [-Sem.runT_eq, stepG.apply, e', GStep.after, hkd, seen_two (P := ⟨T, f⟩) (P₁ := ⟨T, g⟩) hq hK.1]
    | stuck s =>
      refine .inr ?_
      simp [-Sem.runT_eq, stepG.apply, e, GStep.after, hkd]
    | unsupported u =>
      by_cases hu : ∃ b, u = .initOrder b
      · obtain ⟨b, rfl⟩ := hu
        rcases early_go (T := T) (fr := fr) (F := f) (x := tops ++ cs) (v := w') (hst b) with ⟨hfl, c, e1, hb, hg⟩ | ⟨o', w'', es'', hg⟩
        · refine .inl ⟨fr, tops, { w' with heap := w'.heap.setIfInBounds b (.cells c e1) }, k', seen ⟨T, f⟩ fr.fn #[], ?_, .move .same, h, htops, t, d, seen_quiet Quietly.nil, kc.trans (Kc.put rfl ⟨_, hb, rfl⟩), fun A => ?_⟩
          · simp [-Sem.runT_eq, stepG.apply, e, GStep.after, hkd, hg]
          · obtain ⟨w₁', e', s', t', d', kc'⟩ := x A
            have hb1 : w₁'.heap[b]? = some (.pending c e1) := by
              rcases s'.block b with q | ⟨_, ⟨_, _, _, _, _, _, q⟩, _⟩
              · exact q.trans hb
              · rw [hb] at q; cases q
            rcases early_go (T := T) (fr := fr) (F := g) (x := tops ++ cs₁) (v := w₁') (hst₁ b) with ⟨_, c', e1', hb', hg'⟩ | ⟨o', w'', es'', hg'⟩
            · rw [hb1] at hb'
              cases hb'
              refine ⟨{ w₁' with heap := w₁'.heap.setIfInBounds b (.cells c e1) }, ?_, s'.put _ _, t', d', kc'.trans (Kc.put rfl ⟨_, hb1, rfl⟩)⟩
              simp [-Sem.runT_eq, stepG.apply, e', GStep.after, hkd, hg', seen_two (P := ⟨T, f⟩) (P₁ := ⟨T, g⟩) Quietly.nil hK.1]
            · exfalso
              unfold early at hg'
              have hfl' : (⟨T, g⟩ : Program).follows .staticDataAhead = false := hfl
              simp [hfl', hb1] at hg'
        · refine .inr ?_
          simp [-Sem.runT_eq, stepG.apply, e, GStep.after, hkd, hg]
      · refine .inr ?_
        cases u <;> first | (exact absurd ⟨_, rfl⟩ hu) | (simp [-Sem.runT_eq, stepG.apply, e, GStep.after, hkd]; done)
    | _ => exact q.elim
end
end Go.Proofs.Ytfhcpehfmecpjaa
/- A run that ends on every tape, step by step: the tree of all its answers is well founded. -/
namespace Go.Proofs.Ytfhcpehfmecpjaa
open Go.Conc

section
variable {z : Option Nat} {ok : Op → Bool} {S : List FuncId} {T : Tables} {f g : Array Func} {fr : Frame} {tops cs cs₁ : List Frame} {w w₁ : World} {main main₁ : Bool}
/-- WHERE ORDINARY STEPS END: an operation that does not pass the test stands next; or the lowest function is left. -/
def Spec (P : Program) (S : List FuncId) (fr : Frame) (tops : List Frame) : Prop :=
  (tops = [] ∧ fr.mode ≠ .run) ∨ (fr.mode = .run ∧ ∃ ops i r k o, fr.todo = .inRegion ops (i :: r) :: k ∧ ops[i]? = some o ∧ Region.wanted o (yielded ops fr.tmps) = true ∧ okOp P S o.op = false)
theorem both_step (h : Ord ok S fr) (htops : ∀ t ∈ tops, Ord ok S t ∧ t.mode = .run) (hF : ∀ x ∈ S, Fine ok f g x) (hst : ∀ b, (⟨T, f⟩ : Program).stepOf b = none) (hst₁ : ∀ b, (⟨T, g⟩ : Program).stepOf b = none)
    (hS : Sim z w w₁) (hsp : ¬ Spec ⟨T, f⟩ S fr tops) : Both z ok S ⟨T, f⟩ ⟨T, g⟩ main main₁ fr tops cs cs₁ w w₁ := by
  have hK := (hF fr.fn h.fn).1
  cases hm : fr.mode with
  | returning => exact both_return h hK hm hS htops (fun e => hsp (.inl ⟨e, by rw [hm]; simp⟩))
  | panicking ch => exact both_panic h hK hm hS htops (fun e => hsp (.inl ⟨e, by rw [hm]; simp⟩))
  | run =>
    by_cases hd : ∃ id ops k, fr.todo = .code (.region id ops true) :: k
    · obtain ⟨id, ops, k, hd⟩ := hd
      exact both_draw h hm hd hS htops
    · by_cases ho : ∃ ops i r k o, fr.todo = .inRegion ops (i :: r) :: k ∧ ops[i]? = some o ∧ Region.wanted o (yielded ops fr.tmps) = true
      · obtain ⟨ops, i, r, k, o, h1, h2, h3⟩ := ho
        cases h4 : okOp ⟨T, f⟩ S o.op with
        | false => exact absurd (.inr ⟨hm, ops, i, r, k, o, h1, h2, h3, h4⟩) hsp
        | true => exact both_op h hm h1 h2 h3 h4 hF hst hst₁ hS htops
      · refine both_ctl h hm (fun id ops k e => hd ⟨id, ops, k, e⟩) (fun ops i r k e => ?_) hS htops
        cases h2 : ops[i]? with
        | none => rfl
        | some o =>
          cases h3 : Region.wanted o (yielded ops fr.tmps) with
          | false => simp [h3]
          | true => exact absurd ⟨ops, i, r, k, o, e, h2, h3⟩ ho

/-- The world with another tape. -/
def Rt (w : World) (τ : Nat → Question → Nat) : World := { w with tape := τ }
/-- The tape answers as w's own where answers have been taken. -/
def Ext (w : World) (τ : Nat → Question → Nat) : Prop := ∀ i, i < w.drawn → τ i = w.tape i
/-- THE SENTINEL: a caller into which neither a return nor a panic goes on. -/
def sent (P : Program) : Frame := { fn := P.funcs.size, tmps := #[undef], todo := [.call { target := .nil, args := #[] } false "fmt's door" #[]], defers := [], mode := .run, kind := .normal }
theorem door_none : (Extern.next "fmt's door").isNone = true := by kernel_rfl
theorem sent_return (v : Value) (w : World) : ∃ o w' es, stepG ⟨T, f⟩ true (Gr ((sent ⟨T, f⟩).finish v) []) w = .ended o w' es := by
  have h : Extern.next "fmt's door" = none := by
    have := door_none
    cases e : Extern.next "fmt's door" with
    | none => rfl
    | some x => rw [e] at this; cases this
  simp [stepG, stepG.exec, sent, Frame.finish, h]
theorem sent_panic (ch : List PanicEntry) (w : World) : ∃ o w' es, stepG ⟨T, f⟩ true (Gr ((sent ⟨T, f⟩).raise ch) []) w = .ended o w' es := by
  have h : (f[f.size]? : Option Func) = none := by simp
  simp [stepG, sent, Frame.raise, unwind, Frame.catches, h]
/-- A frame that is about to return. -/
def Leaves (P : Program) (fr : Frame) : Prop := fr.mode = .returning ∧ fr.defers = [] ∧ fr.kind = .normal ∧ ∃ fn, P.funcs[fr.fn]? = some fn
/-- ON EVERY TAPE THAT GOES ON FROM HERE THE LONE MACHINE COMES TO AN END LIKE THIS. -/
def Tm2 (P : Program) (Fin : Frame → World → Prop) (fr : Frame) (tops : List Frame) (w : World) : Prop :=
  ∀ τ, Ext w τ → ∃ n fr' w', runN P n (lone fr (tops ++ [sent P]) (Rt w τ)) = .next (lone fr' [sent P] w') ∧ Leaves P fr' ∧ Fin fr' w'
/-- A leap of the lone machine that asks nothing of the tape. -/
def Leap (P : Program) (fr : Frame) (tops : List Frame) (w : World) (fr' : Frame) (tops' : List Frame) (w' : World) : Prop :=
  w'.tape = w.tape ∧ w'.drawn = w.drawn ∧ ∀ τ, Ext w τ → ∃ m, runN P (m + 1) (lone fr (tops ++ [sent P]) (Rt w τ)) = .next (lone fr' (tops' ++ [sent P]) (Rt w' τ))
/-- The tree of all answers, with leaps where ordinary steps end. -/
inductive Tree (P : Program) (S : List FuncId) (Jump : Frame → List Frame → World → Frame → List Frame → World → Prop) : Frame → List Frame → World → Prop
  | fin {fr : Frame} {w : World} (h : fr.mode ≠ .run) : Tree P S Jump fr [] w
  | step {fr : Frame} {tops : List Frame} {w : World} (N : (τ : Nat → Question → Nat) → Ext w τ → Frame × List Frame × World × Array Event)
      (he : ∀ τ ht, stepG P true (Gr fr (tops ++ [sent P])) (Rt w τ) = .go (Gr (N τ ht).1 ((N τ ht).2.1 ++ [sent P])) (N τ ht).2.2.1 (N τ ht).2.2.2) (hs : ∀ τ ht, Tree P S Jump (N τ ht).1 (N τ ht).2.1 (N τ ht).2.2.1)
      (hsp : ¬ Spec P S fr tops) : Tree P S Jump fr tops w
  | jump {fr fr' : Frame} {tops tops' : List Frame} {w w' : World} (hj : Jump fr tops w fr' tops' w') (hs : Tree P S Jump fr' tops' w') : Tree P S Jump fr tops w
theorem Tree.of {P : Program} {S : List FuncId} {Jump : Frame → List Frame → World → Frame → List Frame → World → Prop} {fr : Frame} {tops : List Frame} {w : World} (hsp : ¬ Spec P S fr tops)
    (h : ∀ τ, Ext w τ → ∃ fr' tops' w' es, stepG P true (Gr fr (tops ++ [sent P])) (Rt w τ) = .go (Gr fr' (tops' ++ [sent P])) w' es ∧ Tree P S Jump fr' tops' w') : Tree P S Jump fr tops w := by
  have h' : ∀ τ, Ext w τ → ∃ p : Frame × List Frame × World × Array Event, stepG P true (Gr fr (tops ++ [sent P])) (Rt w τ) = .go (Gr p.1 (p.2.1 ++ [sent P])) p.2.2.1 p.2.2.2 ∧ Tree P S Jump p.1 p.2.1 p.2.2.1 := by
    intro τ ht
    obtain ⟨a, b, d, e, q⟩ := h τ ht
    exact ⟨(a, b, d, e), q⟩
  exact .step (fun τ ht => Classical.choose (h' τ ht)) (fun τ ht => (Classical.choose_spec (h' τ ht)).1) (fun τ ht => (Classical.choose_spec (h' τ ht)).2) hsp
/-- One ordinary step on two tapes that answer alike as far as it asks. -/
theorem use (h : Ord ok S fr) (htops : ∀ t ∈ tops, Ord ok S t ∧ t.mode = .run) (hF : ∀ x ∈ S, Fine ok f f x) (hst : ∀ b, (⟨T, f⟩ : Program).stepOf b = none) (hsp : ¬ Spec ⟨T, f⟩ S fr tops) (c : List Frame) (τ : Nat → Question → Nat) :
    (∃ fr' tops' w' es, stepG ⟨T, f⟩ true (Gr fr (tops ++ c)) (Rt w τ) = .go (Gr fr' (tops' ++ c)) w' es ∧ Near ⟨T, f⟩ S fr tops fr' tops' ∧ Ord ok S fr' ∧ (∀ t ∈ tops', Ord ok S t ∧ t.mode = .run) ∧ w'.tape = τ ∧ w.drawn ≤ w'.drawn ∧ Kc w w' ∧
      ∀ τ', (∀ i, i < w'.drawn → τ' i = τ i) → stepG ⟨T, f⟩ true (Gr fr (tops ++ c)) (Rt w τ') = .go (Gr fr' (tops' ++ c)) (Rt w' τ') es) ∨
    (∃ o w' es, stepG ⟨T, f⟩ true (Gr fr (tops ++ c)) (Rt w τ) = .ended o w' es) := by
  have key := fun w₁ (hS : Sim none (Rt w τ) w₁) => both_step (main := true) (main₁ := true) (cs := c) (cs₁ := c) h htops hF hst hst hS hsp
  rcases key (Rt w τ) (Sim.refl _) with ⟨fr', tops', w', k, es, e, nr, h1, h2, t, d, _, kc, _⟩ | q
  · refine .inl ⟨fr', tops', w', es, e, nr, h1, h2, t, by rw [d]; exact Nat.le_add_right _ _, kc, fun τ' ht => ?_⟩
    rcases key (Rt w τ') ⟨rfl, rfl, rfl, fun _ => .inl rfl⟩ with ⟨fr'', tops'', w'', k', es', e', _, _, _, t', d', _, _, x⟩ | ⟨o, w'', es', e'⟩
    · rw [e] at e'
      injection e' with q1 q2 q3
      injection q1 with q4 q5
      have q6 := List.append_cancel_right q5
      subst q4 q6 q2 q3
      have hk : k' = k := by have := d.symm.trans d'; omega
      subst hk
      obtain ⟨w₁', e1, s1, t1, d1, _⟩ := x (fun i hi q => by
        show τ' (w.drawn + i) q = τ (w.drawn + i) q
        rw [ht (w.drawn + i) (by rw [d]; show w.drawn + i < w.drawn + k'; omega)])
      rw [e1]
      have hw : w₁' = Rt w' τ' := by
        obtain ⟨hp, tp, dr, os, out⟩ := w₁'
        have a1 := s1.heap
        have a2 := s1.os
        have a3 := s1.output
        simp only at a1 a2 a3 t1 d1
        subst a1 a2 a3
        have : dr = w'.drawn := by rw [d1, d]; rfl
        subst this
        have : tp = τ' := t1
        subst this
        rfl
      rw [hw]
    · rw [e] at e'; cases e'
  · exact .inr q
theorem lone_step {P : Program} {fr fr' : Frame} {c c' : List Frame} {w w' : World} {es : Array Event} (h : stepG P true (Gr fr c) w = .go (Gr fr' c') w' es) : step P (lone fr c w) = .next (lone fr' c' w') :=
  step_lone_go (by rw [h]; rfl)
theorem lone_ended {P : Program} {fr : Frame} {c : List Frame} {w w' : World} {o : Outcome} {es : Array Event} (h : stepG P true (Gr fr c) w = .ended o w' es) : step P (lone fr c w) = .ended o w' :=
  step_lone_ended (by rw [h]; rfl)
/-- Behind the lowest return nothing of the run's own comes. -/
theorem after_end {fr' x : Frame} {tops' : List Frame} {w' w'' : World} (h : Leaves ⟨T, f⟩ fr') (m : Nat) : runN ⟨T, f⟩ (m + 1) (lone fr' [sent ⟨T, f⟩] w') ≠ .next (lone x (tops' ++ [sent ⟨T, f⟩]) w'') := by
  obtain ⟨hmd, hdf, hkd, fn, hfn⟩ := h
  have no : ∀ (n : Nat) (v : World) (y : Frame), (∃ o w'' es, stepG ⟨T, f⟩ true (Gr y []) v = .ended o w'' es) → runN ⟨T, f⟩ n (lone y [] v) ≠ .next (lone x (tops' ++ [sent ⟨T, f⟩]) w'') := by
    intro n v y hy e
    cases n with
    | zero =>
      simp only [runN, lone, Stepped.next.injEq, Machine.mk.injEq] at e
      have := e.2.1
      simp at this
    | succ n =>
      obtain ⟨o, w3, es, hs⟩ := hy
      simp only [runN, lone_ended hs] at e
      cases e
  intro e
  simp only [runN] at e
  have hs : stepG ⟨T, f⟩ true (Gr fr' [sent ⟨T, f⟩]) w' = GStep.after (seen ⟨T, f⟩ fr'.fn ((results fn fr'.tmps).runT ⟨T, f⟩ w' #[]).2) (match ((results fn fr'.tmps).runT ⟨T, f⟩ w' #[]).1 with
      | .ok a v' => .go (Gr ((sent ⟨T, f⟩).finish a) []) v'
      | .halt (.stuck s) v' => .ended (.stuck s (fr'.pos ⟨T, f⟩)) v'
      | .halt _ v' => .ended (.stuck "return: the result variables cannot be read" (fr'.pos ⟨T, f⟩)) v') := by
    obtain ⟨fn', tmps, todo, defers, mode, kind, round⟩ := fr'
    simp only at hmd hdf hfn hkd
    subst hmd hdf hkd
    simp only [stepG, unwind, hfn, doReturn]
    rfl
  cases hr : ((results fn fr'.tmps).runT ⟨T, f⟩ w' #[]).1 with
  | ok a v' =>
    rw [hr] at hs
    have hs' : stepG ⟨T, f⟩ true (Gr fr' [sent ⟨T, f⟩]) w' = .go (Gr ((sent ⟨T, f⟩).finish a) []) v' (seen ⟨T, f⟩ fr'.fn ((results fn fr'.tmps).runT ⟨T, f⟩ w' #[]).2 ++ #[]) := hs
    rw [lone_step hs'] at e
    exact no m _ _ (sent_return a _) e
  | halt y v' =>
    rw [hr] at hs
    have : ∃ o w'' es, stepG ⟨T, f⟩ true (Gr fr' [sent ⟨T, f⟩]) w' = .ended o w'' es := by
      rw [hs]
      cases y <;> exact ⟨_, _, _, rfl⟩
    obtain ⟨o, w3, es, hs'⟩ := this
    rw [lone_ended hs'] at e
    cases e
/-- What is known of every tape outlives an ordinary step. -/
theorem tm_step {Fin : Frame → World → Prop} (h : Ord ok S fr) (htops : ∀ t ∈ tops, Ord ok S t ∧ t.mode = .run) (hF : ∀ x ∈ S, Fine ok f f x) (hst : ∀ b, (⟨T, f⟩ : Program).stepOf b = none) (hsp : ¬ Spec ⟨T, f⟩ S fr tops)
    (hT : Tm2 ⟨T, f⟩ Fin fr tops w) (τ : Nat → Question → Nat) (ht : Ext w τ) :
    ∃ fr' tops' w' es, stepG ⟨T, f⟩ true (Gr fr (tops ++ [sent ⟨T, f⟩])) (Rt w τ) = .go (Gr fr' (tops' ++ [sent ⟨T, f⟩])) w' es ∧ Near ⟨T, f⟩ S fr tops fr' tops' ∧ Ord ok S fr' ∧ (∀ t ∈ tops', Ord ok S t ∧ t.mode = .run) ∧ w'.tape = τ ∧ w.drawn ≤ w'.drawn ∧ Kc w w' ∧ Tm2 ⟨T, f⟩ Fin fr' tops' w' ∧
      ∀ τ', (∀ i, i < w'.drawn → τ' i = τ i) → stepG ⟨T, f⟩ true (Gr fr (tops ++ [sent ⟨T, f⟩])) (Rt w τ') = .go (Gr fr' (tops' ++ [sent ⟨T, f⟩])) (Rt w' τ') es := by
  have first : ∀ τ, Ext w τ → ∃ n fr' w', runN ⟨T, f⟩ (n + 1) (lone fr (tops ++ [sent ⟨T, f⟩]) (Rt w τ)) = .next (lone fr' [sent ⟨T, f⟩] w') ∧ Leaves ⟨T, f⟩ fr' ∧ Fin fr' w' := by
    intro τ ht
    obtain ⟨n, fr', w', e, m, q⟩ := hT τ ht
    cases n with
    | zero =>
      exfalso
      simp only [runN, lone, Stepped.next.injEq, Machine.mk.injEq] at e
      have e2 : (Gr fr (tops ++ [sent ⟨T, f⟩])) = (Gr fr' [sent ⟨T, f⟩]) := by
        have := e.2.1
        simpa using this
      injection e2 with e3 e4
      have : tops = [] := by simpa using e4
      exact hsp (.inl ⟨this, by rw [e3, m.1]; simp⟩)
    | succ n => exact ⟨n, fr', w', e, m, q⟩
  rcases use (w := w) h htops hF hst hsp [sent ⟨T, f⟩] τ with ⟨fr', tops', w', es, e, nr, h1, h2, t, d, kc, x⟩ | ⟨o, w', es, e⟩
  · refine ⟨fr', tops', w', es, e, nr, h1, h2, t, d, kc, fun τ' ht' => ?_, x⟩
    have hx : ∀ i, i < w'.drawn → τ' i = τ i := fun i hi => by rw [ht' i hi, t]
    obtain ⟨n, fr'', w'', e2, m, q⟩ := first τ' (fun i hi => by rw [hx i (by omega)]; exact ht i hi)
    refine ⟨n, fr'', w'', ?_, m, q⟩
    simp only [runN] at e2
    rw [lone_step (x τ' hx)] at e2
    exact e2
  · exfalso
    obtain ⟨n, fr'', w'', e2, m, q⟩ := first τ ht
    simp only [runN] at e2
    rw [lone_ended e] at e2
    cases e2
/-- .. and a leap. -/
theorem tm_leap {Fin : Frame → World → Prop} {fr' : Frame} {tops' : List Frame} {w' : World} (hL : Leap ⟨T, f⟩ fr tops w fr' tops' w') (hT : Tm2 ⟨T, f⟩ Fin fr tops w) : Tm2 ⟨T, f⟩ Fin fr' tops' w' := by
  obtain ⟨l1, l2, l3⟩ := hL
  intro τ hτ
  have hτ' : Ext w τ := fun i hi => by rw [hτ i (by rw [l2]; exact hi), l1]
  obtain ⟨n, fr'', w'', e, m, q⟩ := hT τ hτ'
  obtain ⟨k, e'⟩ := l3 τ hτ'
  rcases Nat.lt_or_ge k n with h | h
  · obtain ⟨j, rfl⟩ := Nat.exists_eq_add_of_le h
    refine ⟨j, fr'', w'', ?_, m, q⟩
    rw [runN_add, e'] at e
    exact e
  · exfalso
    obtain ⟨j, rfl⟩ := Nat.exists_eq_add_of_le h
    rw [Nat.add_assoc, runN_add, e] at e'
    exact after_end m j e'
/-- ████ A RUN THAT ENDS ON EVERY TAPE HAS A WELL-FOUNDED TREE. ████ 'I': what is held of the world besides; 'hjump': where ordinary steps end there is a leap. -/
theorem bar {Fin : Frame → World → Prop} {Jump : Frame → List Frame → World → Frame → List Frame → World → Prop} {I : Frame → List Frame → World → Prop} (hF : ∀ x ∈ S, Fine ok f f x) (hst : ∀ b, (⟨T, f⟩ : Program).stepOf b = none) 
    (hI : ∀ fr tops w fr' tops' w' τ es, Ord ok S fr → (∀ t ∈ tops, Ord ok S t ∧ t.mode = .run) → ¬ Spec ⟨T, f⟩ S fr tops → Near ⟨T, f⟩ S fr tops fr' tops' → Kc w w' → stepG ⟨T, f⟩ true (Gr fr (tops ++ [sent ⟨T, f⟩])) (Rt w τ) = .go (Gr fr' (tops' ++ [sent ⟨T, f⟩])) w' es → Tm2 ⟨T, f⟩ Fin fr' tops' w' → I fr tops w → I fr' tops' w')
    (hjump : ∀ fr tops w, Ord ok S fr → (∀ t ∈ tops, Ord ok S t ∧ t.mode = .run) → fr.mode = .run → Spec ⟨T, f⟩ S fr tops → I fr tops w → Tm2 ⟨T, f⟩ Fin fr tops w →
      ∃ fr' tops' w', Jump fr tops w fr' tops' w' ∧ Leap ⟨T, f⟩ fr tops w fr' tops' w' ∧ Ord ok S fr' ∧ (∀ t ∈ tops', Ord ok S t ∧ t.mode = .run) ∧ I fr' tops' w')
    (h0 : Ord ok S fr) (ht0 : ∀ t ∈ tops, Ord ok S t ∧ t.mode = .run) (hI0 : I fr tops w) (hT0 : Tm2 ⟨T, f⟩ Fin fr tops w) : Tree ⟨T, f⟩ S Jump fr tops w := by
  refine Classical.byContradiction fun hn => ?_
  let X := { x : Frame × List Frame × World // Ord ok S x.1 ∧ (∀ t ∈ x.2.1, Ord ok S t ∧ t.mode = .run) ∧ I x.1 x.2.1 x.2.2 ∧ Tm2 ⟨T, f⟩ Fin x.1 x.2.1 x.2.2 ∧ ¬ Tree ⟨T, f⟩ S Jump x.1 x.2.1 x.2.2 }
  have nx : ∀ x : X, ∃ y : X, x.1.2.2.drawn ≤ y.1.2.2.drawn ∧ Ext x.1.2.2 y.1.2.2.tape ∧
      ∀ τ', (∀ i, i < y.1.2.2.drawn → τ' i = y.1.2.2.tape i) → ∃ m, runN ⟨T, f⟩ (m + 1) (lone x.1.1 (x.1.2.1 ++ [sent ⟨T, f⟩]) (Rt x.1.2.2 τ')) = .next (lone y.1.1 (y.1.2.1 ++ [sent ⟨T, f⟩]) (Rt y.1.2.2 τ')) := by
    rintro ⟨⟨fr, tops, w⟩, h, ht, hi, hT, hN⟩
    by_cases hsp : Spec ⟨T, f⟩ S fr tops
    · by_cases hm : fr.mode = .run
      · obtain ⟨fr', tops', w', hj, hl, h1, h2, hi'⟩ := hjump fr tops w h ht hm hsp hi hT
        refine ⟨⟨(fr', tops', w'), h1, h2, hi', tm_leap hl hT, fun q => hN (.jump hj q)⟩, ?_, ?_, ?_⟩
        · exact Nat.le_of_eq hl.2.1.symm
        · intro i _; show w'.tape i = w.tape i; rw [hl.1]
        · intro τ' hh
          exact hl.2.2 τ' (fun i hi => by rw [hh i (by show i < w'.drawn; rw [hl.2.1]; exact hi)]; show w'.tape i = w.tape i; rw [hl.1])
      · exfalso
        rcases hsp with ⟨rfl, hm'⟩ | ⟨hm', _⟩
        · exact hN (.fin hm')
        · exact hm hm'
    · have : ∃ τ, Ext w τ ∧ ∀ fr' tops' w' es, stepG ⟨T, f⟩ true (Gr fr (tops ++ [sent ⟨T, f⟩])) (Rt w τ) = .go (Gr fr' (tops' ++ [sent ⟨T, f⟩])) w' es → ¬ Tree ⟨T, f⟩ S Jump fr' tops' w' := by
        refine Classical.byContradiction fun q => hN (Tree.of hsp fun τ ht => Classical.byContradiction fun q' => q ⟨τ, ht, fun fr' tops' w' es e t => q' ⟨fr', tops', w', es, e, t⟩⟩)
      obtain ⟨τ, hτ, q⟩ := this
      obtain ⟨fr', tops', w', es, e, nr, h1, h2, t, d, kc, hT', x⟩ := tm_step h ht hF hst hsp hT τ hτ
      refine ⟨⟨(fr', tops', w'), h1, h2, hI _ _ _ _ _ _ _ _ h ht hsp nr kc e hT' hi, hT', q _ _ _ _ e⟩, d, ?_, fun τ' hh => ⟨0, ?_⟩⟩
      · show Ext w w'.tape; rw [t]; exact hτ
      · simp only [runN]
        rw [lone_step (x τ' (fun i hi => by rw [hh i hi]; show w'.tape i = τ i; rw [t]))]
  let s : Nat → X := fun i => Nat.rec ⟨(fr, tops, w), h0, ht0, hI0, hT0, hn⟩ (fun _ x => Classical.choose (nx x)) i
  have link : ∀ i, (s i).1.2.2.drawn ≤ (s (i + 1)).1.2.2.drawn ∧ Ext (s i).1.2.2 (s (i + 1)).1.2.2.tape ∧
      ∀ τ', (∀ j, j < (s (i + 1)).1.2.2.drawn → τ' j = (s (i + 1)).1.2.2.tape j) → ∃ m, runN ⟨T, f⟩ (m + 1) (lone (s i).1.1 ((s i).1.2.1 ++ [sent ⟨T, f⟩]) (Rt (s i).1.2.2 τ')) = .next (lone (s (i + 1)).1.1 ((s (i + 1)).1.2.1 ++ [sent ⟨T, f⟩]) (Rt (s (i + 1)).1.2.2 τ')) :=
    fun i => Classical.choose_spec (nx (s i))
  have nest : ∀ k i, (s i).1.2.2.drawn ≤ (s (i + k)).1.2.2.drawn ∧ Ext (s i).1.2.2 (s (i + k)).1.2.2.tape := by
    intro k
    induction k with
    | zero => exact fun i => ⟨Nat.le_refl _, fun _ _ => rfl⟩
    | succ k ih =>
      intro i
      obtain ⟨a1, a2⟩ := ih i
      obtain ⟨b1, b2, _⟩ := link (i + k)
      exact ⟨Nat.le_trans a1 b1, fun p hp => (b2 p (Nat.lt_of_lt_of_le hp a1)).trans (a2 p hp)⟩
  have meet : ∀ i j p, p < (s i).1.2.2.drawn → p < (s j).1.2.2.drawn → (s i).1.2.2.tape p = (s j).1.2.2.tape p := by
    intro i j p hi hj
    rcases Nat.le_total i j with h | h
    · obtain ⟨k, rfl⟩ := Nat.exists_eq_add_of_le h
      exact ((nest k i).2 p hi).symm
    · obtain ⟨k, rfl⟩ := Nat.exists_eq_add_of_le h
      exact (nest k j).2 p hj
  obtain ⟨τs, hs⟩ : ∃ τs : Nat → Question → Nat, ∀ i p, p < (s i).1.2.2.drawn → τs p = (s i).1.2.2.tape p := by
    refine ⟨fun p => open Classical in if h : ∃ i, p < (s i).1.2.2.drawn then (s (Classical.choose h)).1.2.2.tape p else fun _ => 0, fun i p hp => ?_⟩
    have h : ∃ i, p < (s i).1.2.2.drawn := ⟨i, hp⟩
    simp only [dif_pos h]
    exact meet _ _ _ (Classical.choose_spec h) hp
  have run : ∀ i, ∃ p, i ≤ p ∧ runN ⟨T, f⟩ p (lone fr (tops ++ [sent ⟨T, f⟩]) (Rt w τs)) = .next (lone (s i).1.1 ((s i).1.2.1 ++ [sent ⟨T, f⟩]) (Rt (s i).1.2.2 τs)) := by
    intro i
    induction i with
    | zero => exact ⟨0, Nat.le_refl _, rfl⟩
    | succ i ih =>
      obtain ⟨p, hp, e⟩ := ih
      obtain ⟨_, _, x⟩ := link i
      obtain ⟨m, e'⟩ := x τs (fun j hj => hs (i + 1) j hj)
      refine ⟨p + (m + 1), by omega, ?_⟩
      rw [runN_add, e]
      exact e'
  obtain ⟨n, fr', w', e, m, q⟩ := hT0 τs (fun i hi => hs 0 i hi)
  obtain ⟨p, hp, e'⟩ := run (n + 1)
  obtain ⟨j, rfl⟩ := Nat.exists_eq_add_of_le hp
  rw [show n + 1 + j = n + (j + 1) by omega, runN_add, e] at e'
  exact after_end m j e'
end
end Go.Proofs.Ytfhcpehfmecpjaa
