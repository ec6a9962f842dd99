/- Texts of ours, laid one behind the other: SeE, SeF, XeK, XeA, SeG. -/
import Derived.Test.YteaieagkjepgiaaGreatDoorPfM2
import Derived.Conc.Own
set_option linter.unusedVariables false
set_option linter.unusedSimpArgs false
/- . -/
namespace Go.Proofs.YteaieagkjepgiaaGreatDoor
set_option maxRecDepth 100000
open Go.Conc
section
variable (T:Tables) (f g:Array Func)
theorem cellOfByte_same:∀ (d:Nat) (t:TypeId) (o:Nat),cellOfByte ⟨T,f⟩ d t o=cellOfByte ⟨T,g⟩ d t o
  | 0,_,_=>rfl
  | d+1,t,o=>by
    unfold cellOfByte
    simp only [cellOfByte_same d]
    rfl
theorem cellAtBytes_same (d:Nat) (e:TypeId) (c o:Nat) (b:Int):cellAtBytes ⟨T,f⟩ d e c o b=cellAtBytes ⟨T,g⟩ d e c o b:=by
  unfold cellAtBytes
  simp only [byteOfCell_same T f g,cellOfByte_same T f g]
  rfl
end
section
variable {α β γ:Type} {T:Tables} {f g:Array Func}
theorem t_ite {Q:α->Prop} {c:Prop} [Decidable c] {x y:Sem α} (h1:Tame ⟨T,f⟩ ⟨T,g⟩ Q x) (h2:Tame ⟨T,f⟩ ⟨T,g⟩ Q y):Tame ⟨T,f⟩ ⟨T,g⟩ Q (if c then x else y):=by
  split <;> assumption
theorem t_forInL {l:List γ} {k:γ->β->Sem (ForInStep β)} (hk:∀ a b,Tm T f g (k a b)):∀ b:β,Tm T f g (forIn l b k):=by
  induction l with
  | nil=>exact fun _=>trivial
  | cons a l ih =>
    intro b
    rw [List.forIn_cons]
    refine tq (hk a b) (fun x=>?_)
    cases x with
    | done b=>exact trivial
    | yield b=>exact ih b
theorem t_forInA {l:Array γ} {k:γ->β->Sem (ForInStep β)} {b:β} (hk:∀ a b,Tm T f g (k a b)):Tm T f g (forIn l b k):=by
  rw [<-Array.forIn_toList]
  exact t_forInL hk b
theorem t_mapML {l:List γ} {k:γ->Sem β} (hk:∀ a,Tm T f g (k a)):Tm T f g (l.mapM k):=by
  induction l with
  | nil=>exact trivial
  | cons a l ih =>
    rw [List.mapM_cons]
    exact tq (hk a) (fun _=>tq ih (fun _=>trivial))
theorem t_mapMA {l:Array γ} {k:γ->Sem β} (hk:∀ a,Tm T f g (k a)):Tm T f g (l.mapM k):=by
  rw [Array.mapM_eq_mapM_toList]
  exact tm (t_mapML hk)
theorem t_foldlML {l:List γ} {k:β->γ->Sem β} (hk:∀ b a,Tm T f g (k b a)):∀ b:β,Tm T f g (l.foldlM k b):=by
  induction l with
  | nil=>exact fun _=>trivial
  | cons a l ih =>
    intro b
    rw [List.foldlM_cons]
    exact tq (hk b a) (fun x=>ih x)
set_option maxHeartbeats 1000000 in
theorem t_byteOf (a:Addr):Tm T f g (byteOf a):=by
  unfold byteOf
  split
  · exact trivial
  · refine t_prog ?_ ?_
    · simp only [byteOfCell_same T g f]
      rfl
    · refine tq (t_noView a) (fun _=>tq (t_shape _) (fun x=>?_))
      split
      · dsimp only
        split
        · exact trivial
        · split <;> exact trivial
      · exact trivial
set_option maxHeartbeats 1000000 in
theorem t_partAt (a:Addr) (n m:Nat):Tm T f g (partAt a n m):=by
  unfold partAt
  repeat' first
    | (with_reducible exact tp _)
    | (with_reducible apply t_byteOf)
    | (with_reducible apply t_stuck)
    | (with_reducible apply t_unsupported)
    | (with_reducible apply q_stuck)
    | (with_reducible apply q_unsupported)
    | (with_reducible refine tq ?_ ?_)
    | (with_reducible refine tm ?_)
    | (with_reducible intro _)
    | (with_reducible refine t_ite ?_ ?_)
    | split
    | (dsimp only)
    | exact trivial
set_option maxHeartbeats 1000000 in
theorem t_fieldPlace (a:Addr) (x:Field):Tm T f g (fieldPlace a x):=by
  unfold fieldPlace
  repeat' first
    | (with_reducible exact tp _)
    | (with_reducible apply t_sizeOf)
    | (with_reducible apply t_partAt)
    | (with_reducible apply t_stuck)
    | (with_reducible apply t_unsupported)
    | (with_reducible apply q_stuck)
    | (with_reducible apply q_unsupported)
    | (with_reducible refine tq ?_ ?_)
    | (with_reducible refine tm ?_)
    | (with_reducible intro _)
    | (with_reducible refine t_ite ?_ ?_)
    | split
    | (dsimp only)
    | exact trivial
set_option maxHeartbeats 1000000 in
theorem t_fieldAt (t:TypeId) (v:Value) (n:Nat):Tm T f g (Instr.fieldAt t v n):=by
  unfold Instr.fieldAt
  repeat' first
    | (with_reducible exact tp _)
    | (with_reducible apply t_underlying)
    | (with_reducible apply t_sureAddr)
    | (with_reducible apply t_fieldPlace)
    | (with_reducible apply t_stuck)
    | (with_reducible apply t_unsupported)
    | (with_reducible apply q_stuck)
    | (with_reducible apply q_unsupported)
    | (with_reducible refine tq ?_ ?_)
    | (with_reducible refine tm ?_)
    | (with_reducible intro _)
    | (with_reducible refine t_ite ?_ ?_)
    | split
    | (dsimp only)
    | exact trivial
set_option maxHeartbeats 1000000 in
theorem t_build (t:TypeId) (v:Array (Nat × Value)):Tm T f g (Instr.build t v):=by
  unfold Instr.build
  repeat' first
    | (with_reducible exact tp _)
    | (with_reducible apply t_zeroValue)
    | (with_reducible apply t_underlying)
    | (with_reducible apply t_sizeOf)
    | (with_reducible apply t_mapMA)
    | (with_reducible apply t_stuck)
    | (with_reducible apply t_unsupported)
    | (with_reducible apply q_stuck)
    | (with_reducible apply q_unsupported)
    | (with_reducible refine tq ?_ ?_)
    | (with_reducible refine tm ?_)
    | (with_reducible intro _)
    | (with_reducible refine t_ite ?_ ?_)
    | split
    | (dsimp only)
    | exact trivial
set_option maxHeartbeats 1000000 in
theorem t_intArith (op:BinOp) (k:IntKind) (x y:Int):Tm T f g (Op.intArith op k x y):=by
  unfold Op.intArith
  repeat' first
    | (with_reducible exact tp _)
    | (with_reducible apply t_stuck)
    | (with_reducible apply t_unsupported)
    | (with_reducible apply q_stuck)
    | (with_reducible apply q_unsupported)
    | (with_reducible refine tq ?_ ?_)
    | (with_reducible refine tm ?_)
    | (with_reducible intro _)
    | (with_reducible refine t_ite ?_ ?_)
    | split
    | (dsimp only)
    | exact trivial
set_option maxHeartbeats 1000000 in
theorem t_intBits (op:BinOp) (k:IntKind) (x y:Int):Tm T f g (Op.intBits op k x y):=by
  unfold Op.intBits
  repeat' first
    | (with_reducible exact tp _)
    | (with_reducible apply t_stuck)
    | (with_reducible apply t_unsupported)
    | (with_reducible apply q_stuck)
    | (with_reducible apply q_unsupported)
    | (with_reducible refine tq ?_ ?_)
    | (with_reducible refine tm ?_)
    | (with_reducible intro _)
    | (with_reducible refine t_ite ?_ ?_)
    | split
    | (dsimp only)
    | exact trivial
set_option maxHeartbeats 1000000 in
theorem t_intCmp (op:BinOp) (x y:Int):Tm T f g (Op.intCmp op x y):=by
  unfold Op.intCmp
  repeat' first
    | (with_reducible exact tp _)
    | (with_reducible apply t_stuck)
    | (with_reducible apply t_unsupported)
    | (with_reducible apply q_stuck)
    | (with_reducible apply q_unsupported)
    | (with_reducible refine tq ?_ ?_)
    | (with_reducible refine tm ?_)
    | (with_reducible intro _)
    | (with_reducible refine t_ite ?_ ?_)
    | split
    | (dsimp only)
    | exact trivial
set_option maxHeartbeats 1000000 in
theorem t_intDiv (op:BinOp) (k:IntKind) (x y:Int):Tm T f g (Op.intDiv op k x y):=by
  unfold Op.intDiv
  repeat' first
    | (with_reducible exact tp _)
    | (with_reducible apply t_runtimePanic)
    | (with_reducible apply t_stuck)
    | (with_reducible apply t_unsupported)
    | (with_reducible apply q_stuck)
    | (with_reducible apply q_unsupported)
    | (with_reducible refine tq ?_ ?_)
    | (with_reducible refine tm ?_)
    | (with_reducible intro _)
    | (with_reducible refine t_ite ?_ ?_)
    | split
    | (dsimp only)
    | exact trivial
set_option maxHeartbeats 1000000 in
theorem t_shift (op:BinOp) (k:IntKind) (x:Int) (l:IntKind) (y:Int):Tm T f g (Op.shift op k x l y):=by
  unfold Op.shift
  repeat' first
    | (with_reducible exact tp _)
    | (with_reducible apply t_runtimePanic)
    | (with_reducible apply t_stuck)
    | (with_reducible apply t_unsupported)
    | (with_reducible apply q_stuck)
    | (with_reducible apply q_unsupported)
    | (with_reducible refine tq ?_ ?_)
    | (with_reducible refine tm ?_)
    | (with_reducible intro _)
    | (with_reducible refine t_ite ?_ ?_)
    | split
    | (dsimp only)
    | exact trivial
set_option maxHeartbeats 1000000 in
theorem t_floatArith (op:BinOp) (k:FloatKind) (x y:Nat):Tm T f g (Op.floatArith op k x y):=by
  unfold Op.floatArith
  repeat' first
    | (with_reducible exact tp _)
    | (with_reducible apply t_choose)
    | (with_reducible apply t_stuck)
    | (with_reducible apply t_unsupported)
    | (with_reducible apply q_stuck)
    | (with_reducible apply q_unsupported)
    | (with_reducible refine tq ?_ ?_)
    | (with_reducible refine tm ?_)
    | (with_reducible intro _)
    | (with_reducible refine t_ite ?_ ?_)
    | split
    | (dsimp only)
    | exact trivial
set_option maxHeartbeats 1000000 in
theorem t_floatCmp (op:BinOp) (k:FloatKind) (x y:Nat):Tm T f g (Op.floatCmp op k x y):=by
  unfold Op.floatCmp
  repeat' first
    | (with_reducible exact tp _)
    | (with_reducible apply t_stuck)
    | (with_reducible apply t_unsupported)
    | (with_reducible apply q_stuck)
    | (with_reducible apply q_unsupported)
    | (with_reducible refine tq ?_ ?_)
    | (with_reducible refine tm ?_)
    | (with_reducible intro _)
    | (with_reducible refine t_ite ?_ ?_)
    | split
    | (dsimp only)
    | exact trivial
set_option maxHeartbeats 1000000 in
theorem t_stringOp (op:BinOp) (x y:ByteArray):Tm T f g (Op.stringOp op x y):=by
  unfold Op.stringOp
  repeat' first
    | (with_reducible exact tp _)
    | (with_reducible apply t_stuck)
    | (with_reducible apply t_unsupported)
    | (with_reducible apply q_stuck)
    | (with_reducible apply q_unsupported)
    | (with_reducible refine tq ?_ ?_)
    | (with_reducible refine tm ?_)
    | (with_reducible intro _)
    | (with_reducible refine t_ite ?_ ?_)
    | split
    | (dsimp only)
    | exact trivial
set_option maxHeartbeats 1000000 in
theorem t_unary (op:UnOp) (x:Value):Tm T f g (Op.unary op x):=by
  unfold Op.unary
  repeat' first
    | (with_reducible exact tp _)
    | (with_reducible apply t_intArith)
    | (with_reducible apply t_intBits)
    | (with_reducible apply t_stuck)
    | (with_reducible apply t_unsupported)
    | (with_reducible apply q_stuck)
    | (with_reducible apply q_unsupported)
    | (with_reducible refine tq ?_ ?_)
    | (with_reducible refine tm ?_)
    | (with_reducible intro _)
    | (with_reducible refine t_ite ?_ ?_)
    | split
    | (dsimp only)
    | exact trivial
set_option maxHeartbeats 1000000 in
theorem t_floatToFloat (s:FloatKind) (x:Nat) (d:FloatKind):Tm T f g (Conv.floatToFloat s x d):=by
  unfold Conv.floatToFloat
  repeat' first
    | (with_reducible exact tp _)
    | (with_reducible apply t_choose)
    | (with_reducible apply t_stuck)
    | (with_reducible apply t_unsupported)
    | (with_reducible apply q_stuck)
    | (with_reducible apply q_unsupported)
    | (with_reducible refine tq ?_ ?_)
    | (with_reducible refine tm ?_)
    | (with_reducible intro _)
    | (with_reducible refine t_ite ?_ ?_)
    | split
    | (dsimp only)
    | exact trivial
set_option maxHeartbeats 1000000 in
theorem t_carith (op:BinOp) (k:FloatKind) (x y:Nat):Tm T f g (Op.Complex.arith op k x y):=by
  unfold Op.Complex.arith
  repeat' first
    | (with_reducible exact tp _)
    | (with_reducible apply t_floatArith)
    | (with_reducible apply t_stuck)
    | (with_reducible apply t_unsupported)
    | (with_reducible apply q_stuck)
    | (with_reducible apply q_unsupported)
    | (with_reducible refine tq ?_ ?_)
    | (with_reducible refine tm ?_)
    | (with_reducible intro _)
    | (with_reducible refine t_ite ?_ ?_)
    | split
    | (dsimp only)
    | exact trivial
set_option maxHeartbeats 1000000 in
theorem t_ccmp (op:BinOp) (k:FloatKind) (x y:Nat):Tm T f g (Op.Complex.cmp op k x y):=by
  unfold Op.Complex.cmp
  repeat' first
    | (with_reducible exact tp _)
    | (with_reducible apply t_floatCmp)
    | (with_reducible apply t_asBool)
    | (with_reducible apply t_stuck)
    | (with_reducible apply t_unsupported)
    | (with_reducible apply q_stuck)
    | (with_reducible apply q_unsupported)
    | (with_reducible refine tq ?_ ?_)
    | (with_reducible refine tm ?_)
    | (with_reducible intro _)
    | (with_reducible refine t_ite ?_ ?_)
    | split
    | (dsimp only)
    | exact trivial
set_option maxHeartbeats 1000000 in
theorem t_cconv (k:FloatKind) (x:Nat) (l:FloatKind):Tm T f g (Op.Complex.conv k x l):=by
  unfold Op.Complex.conv
  repeat' first
    | (with_reducible exact tp _)
    | (with_reducible apply t_floatToFloat)
    | (with_reducible apply t_stuck)
    | (with_reducible apply t_unsupported)
    | (with_reducible apply q_stuck)
    | (with_reducible apply q_unsupported)
    | (with_reducible refine tq ?_ ?_)
    | (with_reducible refine tm ?_)
    | (with_reducible intro _)
    | (with_reducible refine t_ite ?_ ?_)
    | split
    | (dsimp only)
    | exact trivial
set_option maxHeartbeats 1000000 in
theorem t_cadd (x y:Nat):Tm T f g (Op.Complex.add x y):=by
  exact t_carith _ _ _ _
set_option maxHeartbeats 1000000 in
theorem t_csub (x y:Nat):Tm T f g (Op.Complex.sub x y):=by
  exact t_carith _ _ _ _
set_option maxHeartbeats 1000000 in
theorem t_cmul (x y:Nat):Tm T f g (Op.Complex.mul x y):=by
  exact t_carith _ _ _ _
set_option maxHeartbeats 1000000 in
theorem t_cquo (x y:Nat):Tm T f g (Op.Complex.quo x y):=by
  exact t_carith _ _ _ _
set_option maxHeartbeats 1000000 in
theorem t_cproduct (a b c d:Nat):Tm T f g (Op.Complex.product a b c d):=by
  unfold Op.Complex.product
  repeat' first
    | (with_reducible exact tp _)
    | (with_reducible apply t_cadd)
    | (with_reducible apply t_csub)
    | (with_reducible apply t_cmul)
    | (with_reducible apply t_cquo)
    | (with_reducible apply t_ccmp)
    | (with_reducible apply t_stuck)
    | (with_reducible apply t_unsupported)
    | (with_reducible apply q_stuck)
    | (with_reducible apply q_unsupported)
    | (with_reducible refine tq ?_ ?_)
    | (with_reducible refine tm ?_)
    | (with_reducible intro _)
    | (with_reducible refine t_ite ?_ ?_)
    | split
    | (dsimp only)
    | exact trivial
set_option maxHeartbeats 1000000 in
theorem t_ccorrected (s a b c d:Nat):Tm T f g (Op.Complex.corrected s a b c d):=by
  unfold Op.Complex.corrected
  repeat' first
    | (with_reducible exact tp _)
    | (with_reducible apply t_cadd)
    | (with_reducible apply t_csub)
    | (with_reducible apply t_cmul)
    | (with_reducible apply t_cquo)
    | (with_reducible apply t_ccmp)
    | (with_reducible apply t_stuck)
    | (with_reducible apply t_unsupported)
    | (with_reducible apply q_stuck)
    | (with_reducible apply q_unsupported)
    | (with_reducible refine tq ?_ ?_)
    | (with_reducible refine tm ?_)
    | (with_reducible intro _)
    | (with_reducible refine t_ite ?_ ?_)
    | split
    | (dsimp only)
    | exact trivial
set_option maxHeartbeats 1000000 in
theorem t_cquotient (a b c d:Nat):Tm T f g (Op.Complex.quotient a b c d):=by
  unfold Op.Complex.quotient
  repeat' first
    | (with_reducible exact tp _)
    | (with_reducible apply t_cadd)
    | (with_reducible apply t_csub)
    | (with_reducible apply t_cmul)
    | (with_reducible apply t_cquo)
    | (with_reducible apply t_ccmp)
    | (with_reducible apply t_ccorrected)
    | (with_reducible apply t_stuck)
    | (with_reducible apply t_unsupported)
    | (with_reducible apply q_stuck)
    | (with_reducible apply q_unsupported)
    | (with_reducible refine tq ?_ ?_)
    | (with_reducible refine tm ?_)
    | (with_reducible intro _)
    | (with_reducible refine t_ite ?_ ?_)
    | split
    | (dsimp only)
    | exact trivial
set_option maxHeartbeats 1000000 in
theorem t_complexOp (op:BinOp) (k:FloatKind) (a b c d:Nat):Tm T f g (Op.complexOp op k a b c d):=by
  unfold Op.complexOp
  repeat' first
    | (with_reducible exact tp _)
    | (with_reducible apply t_carith)
    | (with_reducible apply t_cconv)
    | (with_reducible apply t_ccmp)
    | (with_reducible apply t_cproduct)
    | (with_reducible apply t_cquotient)
    | (with_reducible apply t_stuck)
    | (with_reducible apply t_unsupported)
    | (with_reducible apply q_stuck)
    | (with_reducible apply q_unsupported)
    | (with_reducible refine tq ?_ ?_)
    | (with_reducible refine tm ?_)
    | (with_reducible intro _)
    | (with_reducible refine t_ite ?_ ?_)
    | split
    | (dsimp only)
    | exact trivial
set_option maxHeartbeats 1000000 in
theorem t_unsafeAdd (a:Array TypeId) (t:TypeId) (v:Array Value):Tm T f g (Builtin.unsafeAdd_ a t v):=by
  unfold Builtin.unsafeAdd_
  obtain ⟨l⟩:=v
  rcases l with _ | ⟨x,_ | ⟨y,_ | ⟨z,l⟩⟩⟩ <;> try exact trivial
  cases x <;> try exact trivial
  refine tq (t_asInt _) (fun n=>?_)
  dsimp only
  split
  · split
    · refine tq (t_viewAt _) (fun x=>?_)
      split <;> exact trivial
    · exact trivial
  · split
    · exact trivial
    · split
      · refine tq (t_shape _) (fun x=>?_)
        split
        · refine t_prog ?_ ?_
          · simp only [cellAtBytes_same T g f]
            rfl
          · split <;> exact trivial
        · exact trivial
      · exact trivial
set_option maxHeartbeats 1000000 in
theorem t_movedNumber (t:TypeId) (x y:Value):Tm T f g (movedNumber t x y):=by
  unfold movedNumber
  rcases x with _ | _ | _ | _ | _ | (_ | n) | _ | _ | _ | _ | _ | _ | _ | _ | _
  all_goals dsimp only
  all_goals refine tq (t_underlying _) (fun d=>?_)
  all_goals
    repeat' first
      | exact trivial
      | (with_reducible exact t_unsafeAdd _ _ _)
      | (with_reducible exact t_asNumber _ _)
      | (with_reducible exact t_behindNumber _)
      | (refine tq (t_behindNumber _) (fun _=>?_))
      | (refine tq (t_unsafeAdd _ _ _) (fun _=>?_))
      | split
set_option maxHeartbeats 1000000 in
theorem t_movedPointer (t:TypeId) (x y:Value):Tm T f g (movedPointer t x y):=by
  unfold movedPointer
  dsimp only
  split
  · refine tq (t_numberAt _) (fun a=>?_)
    split
    · exact trivial
    · exact t_unsafeAdd _ _ _
  · exact t_unsafeAdd _ _ _
set_option maxHeartbeats 1000000 in
theorem t_twoPlaces (a b:Addr):Tm T f g (Op.twoPlaces a b):=by
  unfold Op.twoPlaces
  refine t_prog rfl ?_
  split
  · exact trivial
  · exact tq (t_byteOf _) (fun _=>tq (t_byteOf _) (fun _=>trivial))
set_option maxHeartbeats 1000000 in
theorem t_addrSub (k:IntKind) (a b:Addr):Tm T f g (Op.addrSub k a b):=by
  unfold Op.addrSub
  repeat' first
    | (with_reducible exact tp _)
    | (with_reducible apply t_twoPlaces)
    | (with_reducible apply t_stuck)
    | (with_reducible apply t_unsupported)
    | (with_reducible apply q_stuck)
    | (with_reducible apply q_unsupported)
    | (with_reducible refine tq ?_ ?_)
    | (with_reducible refine tm ?_)
    | (with_reducible intro _)
    | (with_reducible refine t_ite ?_ ?_)
    | split
    | (dsimp only)
    | exact trivial
set_option maxHeartbeats 1000000 in
theorem t_addrCmp (op:BinOp) (a b:Addr):Tm T f g (Op.addrCmp op a b):=by
  unfold Op.addrCmp
  repeat' first
    | (with_reducible exact tp _)
    | (with_reducible apply t_twoPlaces)
    | (with_reducible apply t_stuck)
    | (with_reducible apply t_unsupported)
    | (with_reducible apply q_stuck)
    | (with_reducible apply q_unsupported)
    | (with_reducible refine tq ?_ ?_)
    | (with_reducible refine tm ?_)
    | (with_reducible intro _)
    | (with_reducible refine t_ite ?_ ?_)
    | split
    | (dsimp only)
    | exact trivial
set_option maxHeartbeats 1000000 in
theorem t_addrMod (k:IntKind) (a:Addr) (n:Int):Tm T f g (Op.addrMod k a n):=by
  unfold Op.addrMod
  refine tq (t_shape _) (fun x=>?_)
  split
  · refine tq (t_typeInfo _) (fun i=>?_)
    dsimp only
    split
    · exact trivial
    · exact tq (t_byteOf _) (fun _=>trivial)
  · exact trivial
def flat:TypeDesc->Bool
  | .bool | .int _ | .string=>true
  | _=>false
theorem eqGuardType_same (T:Tables) (f g:Array Func):∀ (d:Nat) (t:TypeId),Program.eqGuardType ⟨T,f⟩ d t=Program.eqGuardType ⟨T,g⟩ d t
  | 0,_=>rfl
  | d+1,t=>by
    unfold Program.eqGuardType
    simp only [eqGuardType_same T f g d]
    rfl
set_option maxHeartbeats 4000000 in
theorem t_binOp {op:BinOp} {t:TypeId} (he:∀ x y,Tm T f g (Op.equal t x y)) (x y:Value):Tm T f g (binOp op t x y):=by
  unfold binOp
  repeat' first
    | (with_reducible exact tp _)
    | (with_reducible apply he)
    | (with_reducible apply t_shift)
    | (with_reducible apply t_intArith)
    | (with_reducible apply t_intDiv)
    | (with_reducible apply t_intBits)
    | (with_reducible apply t_intCmp)
    | (with_reducible apply t_floatArith)
    | (with_reducible apply t_floatCmp)
    | (with_reducible apply t_complexOp)
    | (with_reducible apply t_stringOp)
    | (with_reducible apply t_underlying)
    | (with_reducible apply t_movedPointer)
    | (with_reducible apply t_movedNumber)
    | (with_reducible apply t_behindNumber)
    | (with_reducible apply t_addrSub)
    | (with_reducible apply t_addrCmp)
    | (with_reducible apply t_addrMod)
    | (with_reducible apply t_stuck)
    | (with_reducible apply t_unsupported)
    | (with_reducible apply q_stuck)
    | (with_reducible apply q_unsupported)
    | (with_reducible refine tq ?_ ?_)
    | (with_reducible refine tm ?_)
    | (with_reducible intro _)
    | (with_reducible refine t_ite ?_ ?_)
    | split
    | (dsimp only)
    | exact trivial
set_option maxHeartbeats 4000000 in
theorem t_binOp' {op:BinOp} {t:TypeId} (h1:op ≠ .eql) (h2:op ≠ .neq) (x y:Value):Tm T f g (binOp op t x y):=by
  unfold binOp
  repeat' first
    | (with_reducible exact tp _)
    | (with_reducible apply t_shift)
    | (with_reducible apply t_intArith)
    | (with_reducible apply t_intDiv)
    | (with_reducible apply t_intBits)
    | (with_reducible apply t_intCmp)
    | (with_reducible apply t_floatArith)
    | (with_reducible apply t_floatCmp)
    | (with_reducible apply t_complexOp)
    | (with_reducible apply t_stringOp)
    | (with_reducible apply t_underlying)
    | (with_reducible apply t_movedPointer)
    | (with_reducible apply t_movedNumber)
    | (with_reducible apply t_behindNumber)
    | (with_reducible apply t_addrSub)
    | (with_reducible apply t_addrCmp)
    | (with_reducible apply t_addrMod)
    | (with_reducible apply t_stuck)
    | (with_reducible apply t_unsupported)
    | (with_reducible apply q_stuck)
    | (with_reducible apply q_unsupported)
    | (with_reducible refine tq ?_ ?_)
    | (with_reducible refine tm ?_)
    | (with_reducible intro _)
    | (with_reducible refine t_ite ?_ ?_)
    | split
    | (dsimp only)
    | exact trivial
    | (exact absurd rfl h1)
    | (exact absurd rfl h2)
end
end Go.Proofs.YteaieagkjepgiaaGreatDoor
/- . -/
namespace Go.Proofs.YteaieagkjepgiaaGreatDoor
set_option maxRecDepth 100000
open Go.Conc
section
variable (T:Tables) (f g:Array Func)
set_option maxRecDepth 20000 in
theorem alikeButTags_same:∀ (d:Nat) (t u:TypeId),Program.alikeButTags ⟨T,f⟩ d t u=Program.alikeButTags ⟨T,g⟩ d t u
  | 0,_,_=>rfl
  | d+1,t,u=>by
    unfold Program.alikeButTags
    simp only [alikeButTags_same d]
theorem stoodInHeld_same (t:TypeId):Program.stoodInHeld ⟨T,f⟩ t=Program.stoodInHeld ⟨T,g⟩ t:=by
  unfold Program.stoodInHeld Program.stoodInAs
  simp only [alikeButTags_same T f g]
  rfl
theorem sameLayout_same:∀ (d:Nat) (t u:TypeId),sameLayout ⟨T,f⟩ d t u=sameLayout ⟨T,g⟩ d t u
  | 0,_,_=>rfl
  | d+1,t,u=>by
    unfold sameLayout
    simp only [sameLayout_same d,stoodInHeld_same T f g]
    rfl
theorem rowAt_same (fits:TypeId->Bool):∀ (d:Nat) (e:TypeId) (c o n:Nat),rowAt ⟨T,f⟩ fits d e c o n=rowAt ⟨T,g⟩ fits d e c o n
  | 0,_,_,_,_=>rfl
  | d+1,e,c,o,n=>by
    unfold rowAt
    simp only [rowAt_same fits d,stoodInHeld_same T f g]
    rfl
theorem liesAt_same:∀ (d:Nat) (e:TypeId) (c o:Nat) (u:TypeId) (n:Nat),liesAt ⟨T,f⟩ d e c o u n=liesAt ⟨T,g⟩ d e c o u n
  | 0,_,_,_,_,_=>rfl
  | d+1,e,c,o,u,n=>by
    unfold liesAt
    simp only [liesAt_same d,rowAt_same T f g,sameLayout_same T f g]
    rfl
end
section
variable {α β γ:Type} {T:Tables} {f g:Array Func}
set_option maxHeartbeats 1000000 in
theorem t_variablesAt (a:Addr) (u:TypeId) (n:Nat):Tm T f g (variablesAt a u n):=by
  unfold variablesAt
  refine t_prog ?_ (tq (t_shape _) (fun x=>?_))
  · simp only [liesAt_same T g f]
    rfl
  · split <;> exact trivial
theorem t_loadBytes:∀ (n:Nat) (a:Addr) (acc:ByteArray),Tm T f g (loadBytes a acc n)
  | 0,_,_=>trivial
  | n+1,a,acc=>by
    unfold loadBytes
    refine tq (t_load _ _) (fun v=>?_)
    split
    · exact t_loadBytes n _ _
    · exact trivial
set_option maxHeartbeats 1000000 in
theorem t_unsafeString (a:Array TypeId) (t:TypeId) (v:Array Value):Tm T f g (Builtin.unsafeString_ a t v):=by
  unfold Builtin.unsafeString_
  obtain ⟨l⟩:=v
  rcases l with _ | ⟨x,_ | ⟨y,_ | ⟨z,l⟩⟩⟩ <;> try exact trivial
  rcases x with _ | _ | _ | _ | _ | p | _ | _ | _ | _ | _ | _ | _ | _ | _ <;> try exact trivial
  refine tq (t_asInt _) (fun n=>?_)
  cases a[0]? with
  | none=>exact trivial
  | some pt =>
    cases p <;> dsimp only
    all_goals
      repeat' first
        | (with_reducible exact tp _)
        | (with_reducible apply t_runtimePanic)
        | (with_reducible apply t_variablesAt)
        | (with_reducible apply t_elemOf)
        | (with_reducible apply t_loadBytes)
        | (with_reducible apply t_freeze)
        | (with_reducible apply t_stuck)
        | (with_reducible apply t_unsupported)
        | (with_reducible apply q_stuck)
        | (with_reducible apply q_unsupported)
        | (with_reducible refine tq ?_ ?_)
        | (with_reducible refine tm ?_)
        | (with_reducible intro _)
        | (with_reducible refine t_ite ?_ ?_)
        | split
        | (dsimp only)
        | exact trivial
set_option maxHeartbeats 1000000 in
theorem t_lenOf (v:Value):Tm T f g (Builtin.lenOf v):=by
  unfold Builtin.lenOf
  repeat' first
    | (with_reducible exact tp _)
    | (with_reducible apply t_stuck)
    | (with_reducible apply t_unsupported)
    | (with_reducible apply q_stuck)
    | (with_reducible apply q_unsupported)
    | (with_reducible refine tq ?_ ?_)
    | (with_reducible refine tm ?_)
    | (with_reducible intro _)
    | (with_reducible refine t_ite ?_ ?_)
    | split
    | (dsimp only)
    | exact trivial
set_option maxHeartbeats 1000000 in
theorem t_firstCells (s n:Nat) (v:Value):Tm T f g (Builtin.firstCells s n v):=by
  unfold Builtin.firstCells
  repeat' first
    | (with_reducible exact tp _)
    | (with_reducible apply t_loadCells)
    | (with_reducible apply t_stuck)
    | (with_reducible apply t_unsupported)
    | (with_reducible apply q_stuck)
    | (with_reducible apply q_unsupported)
    | (with_reducible refine tq ?_ ?_)
    | (with_reducible refine tm ?_)
    | (with_reducible intro _)
    | (with_reducible refine t_ite ?_ ?_)
    | split
    | (dsimp only)
    | exact trivial
set_option maxHeartbeats 1000000 in
theorem t_holdsCells (a:Addr) (n:Nat):Tm T f g (Builtin.holdsCells a n):=by
  unfold Builtin.holdsCells
  repeat' first
    | (with_reducible exact tp _)
    | (with_reducible apply t_shape)
    | (with_reducible apply t_stuck)
    | (with_reducible apply t_unsupported)
    | (with_reducible apply q_stuck)
    | (with_reducible apply q_unsupported)
    | (with_reducible refine tq ?_ ?_)
    | (with_reducible refine tm ?_)
    | (with_reducible intro _)
    | (with_reducible refine t_ite ?_ ?_)
    | split
    | (dsimp only)
    | exact trivial
set_option maxHeartbeats 1000000 in
theorem t_mayShare (s l n:Nat) (b:Option Addr) (v:Value):Tm T f g (Builtin.mayShare s l n b v):=by
  unfold Builtin.mayShare
  repeat' first
    | (with_reducible exact tp _)
    | (with_reducible apply t_holdsCells)
    | (with_reducible apply t_frozen)
    | (with_reducible apply t_stuck)
    | (with_reducible apply t_unsupported)
    | (with_reducible apply q_stuck)
    | (with_reducible apply q_unsupported)
    | (with_reducible refine tq ?_ ?_)
    | (with_reducible refine tm ?_)
    | (with_reducible intro _)
    | (with_reducible refine t_ite ?_ ?_)
    | split
    | (dsimp only)
    | exact trivial
set_option maxHeartbeats 1000000 in
theorem t_append (a:Array TypeId) (t:TypeId) (v:Array Value):Tm T f g (Builtin.append_ a t v):=by
  unfold Builtin.append_
  repeat' first
    | (with_reducible exact tp _)
    | (with_reducible apply t_underlying)
    | (with_reducible apply t_sizeOf)
    | (with_reducible apply t_asInt)
    | (with_reducible apply t_runtimePanic)
    | (with_reducible apply t_typeInfo)
    | (with_reducible apply t_choose)
    | (with_reducible apply t_lenOf)
    | (with_reducible apply t_firstCells)
    | (with_reducible apply t_zeroValue)
    | (with_reducible apply t_storeCells)
    | (with_reducible apply t_mayShare)
    | (with_reducible apply t_mark)
    | (with_reducible apply t_askRoom)
    | (with_reducible apply t_newRow)
    | (with_reducible apply t_stuck)
    | (with_reducible apply t_unsupported)
    | (with_reducible apply q_stuck)
    | (with_reducible apply q_unsupported)
    | (with_reducible refine tq ?_ ?_)
    | (with_reducible refine tm ?_)
    | (with_reducible intro _)
    | (with_reducible refine t_ite ?_ ?_)
    | split
    | (dsimp only)
    | exact trivial
set_option maxHeartbeats 1000000 in
theorem t_copy (a:Array TypeId) (t:TypeId) (v:Array Value):Tm T f g (Builtin.copy_ a t v):=by
  unfold Builtin.copy_
  repeat' first
    | (with_reducible exact tp _)
    | (with_reducible apply t_underlying)
    | (with_reducible apply t_sizeOf)
    | (with_reducible apply t_lenOf)
    | (with_reducible apply t_firstCells)
    | (with_reducible apply t_storeCells)
    | (with_reducible apply t_stuck)
    | (with_reducible apply t_unsupported)
    | (with_reducible apply q_stuck)
    | (with_reducible apply q_unsupported)
    | (with_reducible refine tq ?_ ?_)
    | (with_reducible refine tm ?_)
    | (with_reducible intro _)
    | (with_reducible refine t_ite ?_ ?_)
    | split
    | (dsimp only)
    | exact trivial
set_option maxHeartbeats 1000000 in
theorem t_min2 (x y:Value):Tm T f g (Builtin.min2 x y):=by
  unfold Builtin.min2
  repeat' first
    | (with_reducible exact tp _)
    | (with_reducible apply t_choose)
    | (with_reducible apply t_asBool)
    | (with_reducible apply t_stringOp)
    | (with_reducible apply t_stuck)
    | (with_reducible apply t_unsupported)
    | (with_reducible apply q_stuck)
    | (with_reducible apply q_unsupported)
    | (with_reducible refine tq ?_ ?_)
    | (with_reducible refine tm ?_)
    | (with_reducible intro _)
    | (with_reducible refine t_ite ?_ ?_)
    | split
    | (dsimp only)
    | exact trivial
set_option maxHeartbeats 1000000 in
theorem t_max2 (x y:Value):Tm T f g (Builtin.max2 x y):=by
  unfold Builtin.max2
  repeat' first
    | (with_reducible exact tp _)
    | (with_reducible apply t_choose)
    | (with_reducible apply t_asBool)
    | (with_reducible apply t_stringOp)
    | (with_reducible apply t_stuck)
    | (with_reducible apply t_unsupported)
    | (with_reducible apply q_stuck)
    | (with_reducible apply q_unsupported)
    | (with_reducible refine tq ?_ ?_)
    | (with_reducible refine tm ?_)
    | (with_reducible intro _)
    | (with_reducible refine t_ite ?_ ?_)
    | split
    | (dsimp only)
    | exact trivial
set_option maxHeartbeats 1000000 in
theorem t_min (a:Array TypeId) (t:TypeId) (v:Array Value):Tm T f g (Builtin.min_ a t v):=by
  unfold Builtin.min_
  split
  · exact trivial
  · exact t_foldlML (fun b a=>t_min2 b a) _
set_option maxHeartbeats 1000000 in
theorem t_max (a:Array TypeId) (t:TypeId) (v:Array Value):Tm T f g (Builtin.max_ a t v):=by
  unfold Builtin.max_
  split
  · exact trivial
  · exact t_foldlML (fun b a=>t_max2 b a) _
set_option maxHeartbeats 1000000 in
theorem t_bytesToString (v:Value):Tm T f g (Conv.bytesToString v):=by
  unfold Conv.bytesToString
  split
  · exact trivial
  · refine tq (t_loadCells _ _) (fun cs=>tq (t_forInA (fun a b=>?_)) (fun s=>trivial))
    split <;> exact trivial
  · exact trivial
set_option maxHeartbeats 1000000 in
theorem t_stringToBytes (e:TypeId) (s:ByteArray):Tm T f g (Conv.stringToBytes e s):=by
  unfold Conv.stringToBytes
  repeat' first
    | (with_reducible exact tp _)
    | (with_reducible apply t_choose)
    | (with_reducible apply t_newRow)
    | (with_reducible apply t_markStringish)
    | (with_reducible apply t_stuck)
    | (with_reducible apply t_unsupported)
    | (with_reducible apply q_stuck)
    | (with_reducible apply q_unsupported)
    | (with_reducible refine tq ?_ ?_)
    | (with_reducible refine tm ?_)
    | (with_reducible intro _)
    | (with_reducible refine t_ite ?_ ?_)
    | split
    | (dsimp only)
    | exact trivial
end
end Go.Proofs.YteaieagkjepgiaaGreatDoor
/- . -/
namespace Go.Proofs.YteaieagkjepgiaaGreatDoor
set_option maxRecDepth 100000
open Go.Conc
inductive VK where
  | fn (y:FuncId)
  | ifc (t:TypeId)
  deriving DecidableEq
def VK.ok:VK->Value->Prop
  | .fn y,v=>v=undef\/∃ a b,v = .func (.func y) a b
  | .ifc t,v=>v=undef\/∃ u,v = .iface t u
def slotL:List (FuncId × Nat × VK):=[(24,7,.fn 55),(54,1,.fn 55),(54,11,.fn 55),(48,1,.fn 49),(48,20,.fn 49),(48,27,.ifc 79),(95,2,.fn 94),(95,24,.fn 94),(95,40,.fn 94),(74,0,.ifc 79),(74,4,.ifc 79),(74,7,.ifc 79),(74,8,.ifc 79),(75,0,.ifc 79),(75,4,.ifc 79),(75,7,.ifc 79),(75,10,.ifc 79),(75,13,.ifc 79),(91,0,.ifc 79),(91,12,.ifc 79),(91,18,.ifc 79),(92,0,.ifc 79),(92,29,.ifc 79),(92,35,.ifc 79),(92,40,.ifc 79),(51,4,.ifc 79),(96,21,.ifc 9),(102,7,.ifc 9)]
def slotK (x:FuncId) (s:Nat):Option VK:=(slotL.find? (fun e=>e.1==x&&e.2.1==s)).map (·.2.2)
def noSlots (y:FuncId):Bool:=slotL.all (fun e=>e.1 != y)
theorem no_slots {y:FuncId} (h:noSlots y=true) (s:Nat):slotK y s=none:=by
  unfold slotK
  rw [Option.map_eq_none_iff,List.find?_eq_none]
  intro e he
  have:=List.all_eq_true.1 h e he
  simp only [bne_iff_ne,ne_eq] at this
  simp [this]
end Go.Proofs.YteaieagkjepgiaaGreatDoor
/- . -/
namespace Go.Proofs.YteaieagkjepgiaaGreatDoor
set_option maxRecDepth 100000
open Go.Conc
section
variable {α β γ:Type} {T:Tables} {f g:Array Func} {S:List FuncId}
theorem t_forInL' {l:List γ} {k:γ->β->Sem (ForInStep β)}:(∀ a ∈ l,∀ b,Tm T f g (k a b))->∀ b:β,Tm T f g (forIn l b k):=by
  induction l with
  | nil=>exact fun _ _=>trivial
  | cons a l ih =>
    intro hk b
    rw [List.forIn_cons]
    refine tq (hk a (.head _) b) (fun x=>?_)
    cases x with
    | done b=>exact trivial
    | yield b=>exact ih (fun a ha=>hk a (.tail _ ha)) b
theorem t_forInA' {l:Array γ} {k:γ->β->Sem (ForInStep β)} {b:β} (hk:∀ a ∈ l.toList,∀ b,Tm T f g (k a b)):Tm T f g (forIn l b k):=by
  rw [<-Array.forIn_toList]
  exact t_forInL' hk b
def flatD (P:Program):Nat->TypeId->Bool
  | 0,t=>((P.underlying t).map flat).getD false
  | n+1,t=>match P.underlying t with
    | some (.struct fs)=>fs.toList.all fun x=>flatD P n x.type
    | some d=>flat d
    | none=>false
theorem alike_same (T:Tables) (f g:Array Func):∀ (d:Nat) (t u:TypeId),Program.alikeButTags ⟨T,g⟩ d t u=Program.alikeButTags ⟨T,f⟩ d t u
  | 0,_,_=>rfl
  | d+1,t,u=>by
    unfold Program.alikeButTags
    simp only [alike_same T f g d]
theorem stood_same (T:Tables) (f g:Array Func) (t:TypeId):Program.stoodInHeld ⟨T,g⟩ t=Program.stoodInHeld ⟨T,f⟩ t:=by
  unfold Program.stoodInHeld Program.stoodInAs
  have h:∀ (t u:TypeId),Program.alikeButTags ⟨T,g⟩ (Program.depth ⟨T,g⟩) t u=Program.alikeButTags ⟨T,f⟩ (Program.depth ⟨T,f⟩) t u:=fun t u=>alike_same T f g _ t u
  simp only [h]
  rfl
set_option maxHeartbeats 4000000 in
theorem t_equalFlat {t:TypeId} {d:TypeDesc} (hu:(⟨T,f⟩:Program).underlying t=some d) (hd:flat d=true) (n:Nat) (x y:Value):Tm T f g (Op.equalIn (n+1) t x y):=by
  unfold Op.equalIn
  unfold underlying
  simp only [bind_assoc]
  refine t_prog rfl ?_
  simp only [hu,pure_bind]
  cases d <;> first | (cases hd;done) | skip
  all_goals rcases x with _ | ⟨k,n⟩ | _ | _ | _ | (_ | a) | _ | _ | _ | _ | _ | _ | _ | _ | _
  all_goals rcases y with _ | ⟨k',n'⟩ | _ | _ | _ | (_ | b) | _ | _ | _ | _ | _ | _ | _ | _ | _
  all_goals first | exact trivial | skip
  all_goals first | (split <;> exact trivial) | (dsimp only;split <;> exact trivial) | skip
  all_goals first | (refine tq (t_behindNumber _) (fun p=>?_);skip) | (split <;> first | exact trivial | contradiction | (simp_all;done)) | skip
  refine tq (t_behindNumber _) (fun q=>t_prog (by dsimp only) ?_)
  split
  · exact tq (t_byteOf _) (fun _=>tq (t_byteOf _) (fun _=>trivial))
  · refine tq (t_typeInfo _) (fun i=>?_)
    split
    · split <;> exact trivial
    · exact trivial
set_option maxHeartbeats 2000000 in
theorem t_equalD:∀ (n:Nat) {t:TypeId},flatD ⟨T,f⟩ n t=true->∀ (d:Nat) (x y:Value),Tm T f g (Op.equalIn d t x y)
  | _,_,_,0,_,_=>by unfold Op.equalIn;exact trivial
  | 0,t,h,d+1,x,y=>by
    unfold flatD at h
    cases hu:(⟨T,f⟩:Program).underlying t with
    | none=>rw [hu] at h;cases h
    | some q=>rw [hu] at h;exact t_equalFlat hu h d x y
  | n+1,t,h,d+1,x,y=>by
    unfold flatD at h
    cases hu:(⟨T,f⟩:Program).underlying t with
    | none=>rw [hu] at h;cases h
    | some q =>
      rw [hu] at h
      by_cases hq:∃ fs,q = .struct fs
      · obtain ⟨fs,rfl⟩:=hq
        dsimp only at h
        unfold Op.equalIn
        unfold underlying
        simp only [bind_assoc]
        refine t_prog rfl ?_
        simp only [hu,pure_bind]
        cases x <;> first | exact trivial | skip
        cases y <;> first | exact trivial | skip
        refine t_prog (by simp only [stood_same T f g]) ?_
        split
        · exact trivial
        · refine tq (t_forInA' (fun a ha b=>?_)) (fun r=>?_)
          · have hfl:=List.all_eq_true.1 h a ha
            repeat' first
              | exact trivial
              | (with_reducible refine tq (t_part _ _ _) ?_)
              | (with_reducible refine tq (t_equalD n hfl d _ _) ?_)
              | (with_reducible intro _)
              | split
              | (dsimp only)
          · repeat' first
              | exact trivial
              | split
              | (dsimp only)
      · have hf:flat q=true:=by
          cases q <;> first | exact h | exact absurd ⟨_,rfl⟩ hq
        exact t_equalFlat hu hf d x y
set_option maxHeartbeats 2000000 in
theorem t_eqGuardInD:∀ (n:Nat) {t:TypeId},flatD ⟨T,f⟩ n t=true->∀ (d:Nat) (x y:Value),Tm T f g (Op.eqGuardIn d t x y)
  | _,_,_,0,_,_=>by unfold Op.eqGuardIn;exact trivial
  | 0,t,h,d+1,x,y=>by
    unfold flatD at h
    cases hu:(⟨T,f⟩:Program).underlying t with
    | none=>rw [hu] at h;cases h
    | some q =>
      rw [hu] at h
      unfold Op.eqGuardIn
      unfold underlying
      simp only [bind_assoc]
      refine t_prog rfl ?_
      simp only [hu,pure_bind]
      cases q <;> first | (cases h;done) | exact trivial
  | n+1,t,h,d+1,x,y=>by
    unfold flatD at h
    cases hu:(⟨T,f⟩:Program).underlying t with
    | none=>rw [hu] at h;cases h
    | some q =>
      rw [hu] at h
      unfold Op.eqGuardIn
      unfold underlying
      simp only [bind_assoc]
      refine t_prog rfl ?_
      simp only [hu,pure_bind]
      by_cases hq:∃ fs,q = .struct fs
      · obtain ⟨fs,rfl⟩:=hq
        dsimp only at h
        cases x <;> first | exact trivial | skip
        cases y <;> first | exact trivial | skip
        refine tq (t_forInA' (fun a ha b=>?_)) (fun r=>?_)
        · have hfl:=List.all_eq_true.1 h a ha
          repeat' first
            | exact trivial
            | (with_reducible refine tq (t_part _ _ _) ?_)
            | (with_reducible refine tq (t_eqGuardInD n hfl d _ _) ?_)
            | (with_reducible intro _)
            | split
            | (dsimp only)
        · repeat' first
            | exact trivial
            | split
            | (dsimp only)
      · cases q <;> first | (cases h;done) | exact absurd ⟨_,rfl⟩ hq | exact trivial
theorem t_eqGuardD {op:BinOp} {t:TypeId} {n:Nat} (hd:flatD ⟨T,f⟩ n t=true) (x y:Operand) (a b:Value):Tm T f g (eqGuard op t x y a b):=by
  have h1:=fun d x y=>t_eqGuardInD (g:=g) n hd d x y
  unfold eqGuard
  cases op <;> first | exact trivial | skip
  all_goals cases a <;> first | exact trivial | skip
  all_goals cases b <;> first | exact trivial | skip
  all_goals
    repeat' first
      | contradiction
      | (with_reducible apply h1)
      | (with_reducible exact tp _)
      | (with_reducible apply t_unsupported)
      | (with_reducible refine t_prog ?_ ?_)
      | (simp only [eqGuardType_same T g f];done)
      | (simp only [eqGuardType_same T g f];rfl)
      | (with_reducible refine tq ?_ ?_)
      | (with_reducible intro _)
      | split
      | (dsimp only)
theorem t_makeInterface (t:TypeId) (x:Value):Tm T f g (Instr.makeInterface t x):=by
  unfold Instr.makeInterface
  refine tq (t_underlying _) (fun d=>?_)
  split <;> exact trivial
theorem t_typeAssert (x:Value) (xt at9:TypeId) (ok:Bool):Tm T f g (Instr.typeAssert x xt at9 ok):=by
  unfold Instr.typeAssert
  dsimp only
  refine tq (t_underlying _) (fun d=>?_)
  repeat' first
    | exact trivial
    | exact t_runtimePanic _
    | exact t_stuck _
    | (with_reducible refine tq (t_zeroValue _) (fun _=>?_))
    | (with_reducible refine tq (t_typeInfo _) (fun _=>?_))
    | split
theorem t_wrapNil (a:Array TypeId) (t:TypeId) (p:Value) (u v:ByteArray):Tm T f g (Builtin.ssaWrapNilChk_ a t #[p,.string u,.string v]):=by
  unfold Builtin.ssaWrapNilChk_
  generalize a[0]?=o9
  cases p <;> first | exact trivial | skip
  rename_i q
  cases q with
  | some q=>cases o9 <;> exact trivial
  | none =>
    cases o9
    all_goals refine tq (t_choose (Question.extern "ssa:wrapnilchk.dereferenced" 2)) (fun _=>?_)
    all_goals repeat' first
      | exact trivial
      | exact t_runtimePanic _
      | exact t_stuck _
      | (with_reducible apply t_unsupported)
      | (with_reducible refine tq (t_choose _) (fun _=>?_))
      | (with_reducible refine tq (t_runtimePanic _) (fun _=>?_))
      | (with_reducible refine tq (t_underlying _) (fun _=>?_))
      | (with_reducible refine tq (t_typeInfo _) (fun _=>?_))
      | split
      | (dsimp only)
def isPtr9:TypeDesc->Bool
  | .pointer _=>true
  | _=>false
def methOf (P:Program) (t:TypeId) (name:String):Option FuncId:=
  match P.info? t with
  | some i=>match i.methods.find? (·.name==name) with
    | some m=>if m.path.isEmpty then match m.func,P.underlying t with
        | some (y,pr),some d=>if (isPtr9 d||(!pr&&flat d))=true then some y else none
        | _,_=>none
      else none
    | none=>none
  | none=>none
theorem t_method {t:TypeId} {name:String} {y:FuncId} (h:methOf ⟨T,f⟩ t name=some y) (n:Nat) (v:Value):Tame ⟨T,f⟩ ⟨T,g⟩ (fun r=>r.1=y) (method (n+1) t v name):=by
  unfold methOf at h
  cases h1:(⟨T,f⟩:Program).info? t with
  | none=>rw [h1] at h;cases h
  | some i =>
    rw [h1] at h
    dsimp only at h
    cases h2:i.methods.find? (·.name==name) with
    | none=>rw [h2] at h;cases h
    | some m =>
      rw [h2] at h
      dsimp only at h
      by_cases h3:m.path.isEmpty=true
      · rw [if_pos h3] at h
        have h3':m.path.toList=[]:=by simpa using h3
        unfold method
        unfold typeInfo
        simp only [bind_assoc]
        refine t_prog rfl ?_
        simp only [h1,pure_bind,h2,h3',follow]
        cases h4:m.func with
        | none=>rw [h4] at h;cases h
        | some p =>
          obtain ⟨z,b⟩:=p
          rw [h4] at h
          cases h5:(⟨T,f⟩:Program).underlying t with
          | none=>rw [h5] at h;cases h
          | some d =>
            rw [h5] at h
            dsimp only at h
            by_cases hd:(isPtr9 d||(!b&&flat d))=true
            · rw [if_pos hd] at h
              cases h
              dsimp only
              unfold receiverAt
              unfold underlying
              simp only [bind_assoc]
              refine t_prog rfl ?_
              simp only [h5,pure_bind]
              cases d <;> cases b <;> first
                | (cases hd;done)
                | exact rfl
                | skip
              all_goals
                simp only [Place.get,pure_bind,bind_assoc]
                repeat' first
                  | exact rfl
                  | exact t_runtimePanic _
                  | (refine tq (t_wrapNil _ _ _ _ _) (fun _=>?_))
                  | (with_reducible refine tq (t_asAddr _) (fun _=>?_))
                  | (with_reducible refine tq (t_loadVar _ _) (fun _=>?_))
                  | (simp only [bind_assoc])
                  | split
            · rw [if_neg hd] at h;cases h
      · rw [if_neg h3] at h
        cases h
end
end Go.Proofs.YteaieagkjepgiaaGreatDoor
/- . -/
namespace Go.Proofs.YteaieagkjepgiaaGreatDoor
set_option maxRecDepth 100000
open Go.Conc
def isU8:Option TypeDesc->Bool
  | some (.int .u8)=>true
  | _=>false
def isRow:Option TypeDesc->Bool
  | some .string=>true
  | some (.slice _)=>true
  | _=>false
theorem isU8_is {o:Option TypeDesc} (h:isU8 o=true):o=some (.int .u8):=by
  unfold isU8 at h
  split at h
  · rfl
  · cases h
def okConv (P:Program) (src dst:TypeId):Bool:=
  match P.underlying src,P.underlying dst with
  | some (.int _),some (.int _)=>true
  | some .string,some .string=>true
  | some .string,some (.slice e)=>isU8 (P.underlying e)
  | some (.slice e),some .string=>isU8 (P.underlying e)
  | _,_=>false
def okBuiltin (P:Program) (b:Builtin) (ts:Array TypeId):Bool:=
  match b with
  | .append | .copy | .min | .max | .unsafeString=>true
  | .len | .cap=>match ts[0]? with
    | some t=>isRow (P.underlying t)
    | none=>false
  | _=>false
def okOp (P:Program) (S:List FuncId) (o:Op):Bool:=
  match o with
  | .move _ | .assign _ | .pick _ _ _ | .alloc _ | .box _ _ | .build _ _ | .buildSlice _ _ _ | .load _ _ | .store _ _ _ | .unOp _ _ _ | .makeSlice _ _ _
  | .slice _ _ _ _ _ | .fieldAddr _ _ _ | .field _ _ _ | .indexAddr _ _ _ | .index _ _ _ | .extract _ _ | .nilCheck _ | .makeInterface _ _ | .makeFunc _ _ _ | .typeAssert _ _ _ _=>true
  | .binOp op t _ _ _=>(op != .eql&&op != .neq)||flatD P 4 t
  | .convert src dst _=>okConv P src dst
  | .call { callee:=.builtin b,argTypes:=ts,.. }=>okBuiltin P b ts
  | .call { callee:=.value (.func f),.. }=>S.contains f
  | _=>false
def Plainly (S:List FuncId):Next->Prop
  | .value _ | .skip=>True
  | .enter f _=>f ∈ S
  | _=>False
def Known (fs gs:Array Func) (f:FuncId):Prop:=gs[f]?=fs[f]?/\∃ fn,fs[f]?=some fn/\fn.body.isNone=false/\(fn.name == "runtime.NumGoroutine")=false
section
variable {T:Tables} {f g:Array Func} {S:List FuncId}
theorem okv {s:Sem Value} (h:Tm T f g s):Tame ⟨T,f⟩ ⟨T,g⟩ (Plainly S) (do pure (.value (<-s))):=tq h (fun _=>trivial)
theorem oku {s:Sem Unit} (h:Tm T f g s):Tame ⟨T,f⟩ ⟨T,g⟩ (Plainly S) (do s;pure .skip):=tq h (fun _=>trivial)
theorem t_floatToInt (k:FloatKind) (b:Nat) (d:IntKind):Tm T f g (Conv.floatToInt k b d):=by
  unfold Conv.floatToInt
  dsimp only
  split
  · exact t_ite (tp _) (tq (t_choose _) (fun _=>tp _))
  · exact tq (t_choose _) (fun _=>tp _)
theorem t_convert {src dst:TypeId} (h:okConv ⟨T,f⟩ src dst=true) (x:Value):Tm T f g (convert src dst x):=by
  unfold okConv at h
  unfold convert
  unfold underlying
  simp only [bind_assoc]
  refine t_prog rfl ?_
  split at h
  case h_5=>cases h
  all_goals
    rename_i h1 h2
    simp only [h1,pure_bind]
    refine t_prog rfl ?_
    simp only [h2,pure_bind]
  · cases x <;> first | exact trivial | skip
    · exact t_floatToInt _ _ _
    · rename_i a
      cases a <;> exact trivial
  · cases x <;> exact trivial
  · have h3:=isU8_is h
    cases x <;> first | exact trivial | skip
    · refine t_prog rfl ?_
      simp only [h3,pure_bind]
      exact t_stringToBytes _ _
    · rename_i a _ _
      cases a <;> exact trivial
  · have h3:=isU8_is h
    cases x <;> first | exact trivial | skip
    all_goals
      refine t_prog rfl ?_
      simp only [h3,pure_bind]
      exact t_bytesToString _
theorem t_len {ts:Array TypeId} {t:TypeId} {v:Array Value} (h:okBuiltin ⟨T,f⟩ .len ts=true):Tm T f g (Builtin.len_ ts t v):=by
  unfold okBuiltin at h
  dsimp only at h
  unfold Builtin.len_
  cases h0:ts[0]? with
  | none=>rw [h0] at h;cases h
  | some t' =>
    rw [h0] at h
    dsimp only at h
    cases v[0]? with
    | none=>exact trivial
    | some x =>
      dsimp only
      unfold underlying
      simp only [bind_assoc]
      refine t_prog rfl ?_
      unfold isRow at h
      split at h
      case h_3=>cases h
      all_goals
        rename_i h1
        simp only [h1,pure_bind]
        cases x <;> exact trivial
theorem t_cap {ts:Array TypeId} {t:TypeId} {v:Array Value} (h:okBuiltin ⟨T,f⟩ .cap ts=true):Tm T f g (Builtin.cap_ ts t v):=by
  unfold okBuiltin at h
  dsimp only at h
  unfold Builtin.cap_
  cases h0:ts[0]? with
  | none=>rw [h0] at h;cases h
  | some t' =>
    rw [h0] at h
    dsimp only at h
    cases v[0]? with
    | none=>exact trivial
    | some x =>
      dsimp only
      unfold underlying
      simp only [bind_assoc]
      refine t_prog rfl ?_
      unfold isRow at h
      split at h
      case h_3=>cases h
      all_goals
        rename_i h1
        simp only [h1,pure_bind]
        cases x <;> exact trivial
theorem t_eqGuard' {op:BinOp} {t:TypeId} (h1:¬ op = .eql) (h2:¬ op = .neq) (x y:Operand) (a b:Value):Tm T f g (eqGuard op t x y a b):=by
  unfold eqGuard
  cases op <;> first | exact trivial | exact absurd rfl h1 | exact absurd rfl h2
theorem t_followBlind:∀ (l:List FieldStep) (t:TypeId) (x:Option Value),Tm T f g (followBlind l t x)
  | [],_,_=>trivial
  | st::rest,t,x=>by
    have ih:=fun t x=>t_followBlind rest t x
    unfold followBlind
    refine tq (t_underlying _) (fun d=>?_)
    repeat' first
      | exact trivial
      | exact ih _ _
      | (with_reducible apply t_stuck)
      | (with_reducible refine tq (t_part _ _ _) ?_)
      | (with_reducible intro _)
      | split
theorem t_nilAhead:∀ (n:Nat) (t:TypeId) (v:Value) (name:String),Tm T f g (nilAhead n t v name)
  | 0,_,_,_=>trivial
  | n+1,t,v,name=>by
    have ih:=fun t v=>t_nilAhead n t v name
    unfold nilAhead
    refine tq (t_typeInfo _) (fun d=>?_)
    repeat' first
      | exact trivial
      | exact ih _ _
      | (with_reducible apply t_stuck)
      | (with_reducible refine tq (t_followBlind _ _ _) ?_)
      | (with_reducible refine tq (t_underlying _) ?_)
      | (with_reducible intro _)
      | split
theorem t_nilCheck (v:Value):Tame ⟨T,f⟩ ⟨T,g⟩ (Plainly S) (match v with
    | .pointer none | .nilIface | .nilFunc=>runtimePanic .nilDeref
    | .func (.method name) first captured =>
      match (first[0]?:Option Value) with
      | some .nilIface=>runtimePanic .nilDeref
      | some (.iface t w)=>do
        if (<-nilAhead ((<-program).types.size+Made.depth) t w name) != some false then
          unsupported (.noEntry "op/nilCheck.the method's receiver behind this interface value is a nil pointer, or cannot be seen to be none, and the arguments act or may panic (ledger 612)")
        pure (.value (.func (.method name) first captured))
      | _=>pure (.value (.func (.method name) first captured))
    | x=>pure (.value x)):=by
  split
  · exact t_runtimePanic _
  · exact t_runtimePanic _
  · exact t_runtimePanic _
  · split
    · exact t_runtimePanic _
    · refine t_prog rfl ?_
      refine tq (t_nilAhead _ _ _ _) (fun r=>?_)
      split
      · exact trivial
      · exact trivial
    · exact trivial
  · exact trivial
theorem t_callFunc {x:FuncId} (hx:x ∈ S) (hS:∀ x ∈ S,Known f g x) (as:Array Value):Tame ⟨T,f⟩ ⟨T,g⟩ (Plainly S) (callFunc x as):=by
  obtain ⟨k1,fn,k2,k3,k4⟩:=hS x hx
  unfold callFunc
  refine t_prog ?_ ?_
  · dsimp only
    rw [k1]
  · dsimp only
    rw [k2]
    dsimp only
    rw [k4,if_neg (by simp),k3,if_neg (by simp)]
    exact hx
set_option maxHeartbeats 2000000 in
theorem ok_tame {o:Oper} {ρ:Operand->Value} (hρ:∀ x,ρ (.func x) = .func (.func x) #[] #[]) (h:okOp ⟨T,f⟩ S o.op=true) (hS:∀ x ∈ S,Known f g x):Tame ⟨T,f⟩ ⟨T,g⟩ (Plainly S) (execOp ρ o):=by
  unfold okOp at h
  unfold execOp
  split at h
  all_goals rename_i e
  all_goals simp only [e]
  all_goals first
    | exact trivial
    | exact tq (t_asBool _) (fun _=>trivial)
    | exact okv (t_alloc _ _ _)
    | exact okv (t_box _ _)
    | exact okv (t_build _ _)
    | exact okv (t_buildSlice _ _ _)
    | exact okv (t_loadAt _ _)
    | exact oku (t_storeAt _ _ _)
    | exact okv (t_unary _ _)
    | exact okv (t_makeSlice _ _ _)
    | exact okv (t_sliceAt _ _ _ _ _)
    | exact okv (t_fieldAt _ _ _)
    | exact okv (t_field _ _ _)
    | exact okv (t_indexAt _ _ _)
    | exact okv (t_index _ _ _)
    | exact okv (t_extract _ _)
    | exact okv (t_convert h _)
    | exact t_nilCheck _
    | exact okv (t_makeInterface _ _)
    | exact okv (t_typeAssert _ _ _ _)
    | exact okv (show Tm T f g (pure _) from trivial)
    | skip
  · refine okv ?_
    simp only [Bool.or_eq_true,Bool.and_eq_true,bne_iff_ne,ne_eq] at h
    rcases h with ⟨h1,h2⟩ | h
    · exact tq (t_eqGuard' h1 h2 _ _ _ _) (fun _=>t_binOp' h1 h2 _ _)
    · exact tq (t_eqGuardD h _ _ _ _) (fun _=>t_binOp (fun x y=>t_equalD 4 h _ x y) _ _)
  · rename_i b as ts
    show Tame ⟨T,f⟩ ⟨T,g⟩ (Plainly S) (builtin b ts o.type _ _)
    unfold builtin
    cases b <;> first
      | (cases h;done)
      | exact okv (t_append _ _ _)
      | exact okv (t_copy _ _ _)
      | exact okv (t_min _ _ _)
      | exact okv (t_max _ _ _)
      | exact okv (t_unsafeString _ _ _)
      | exact okv (t_len h)
      | exact okv (t_cap h)
  · rename_i x as ts
    have hx:x ∈ S:=by simpa using h
    have e1:resolve ρ { callee:=.value (.func x),args:=as,argTypes:=ts } o.type=pure { target:=.fn (.func x) #[],args:=#[]++as.map ρ }:=by
      show Deferred.ofValue (ρ (.func x)) (as.map ρ)=_
      rw [hρ]
      rfl
    rw [e1]
    exact t_callFunc hx hS _
  · cases h
def dynTo (P:Program) (x:FuncId) (o:Op):Option FuncId:=
  match o with
  | .call { callee:=.value (.tmp s),.. }=>match slotK x s with
    | some (.fn y)=>some y
    | _=>none
  | .call { callee:=.invoke (.tmp s) name,.. }=>match slotK x s with
    | some (.ifc t)=>methOf P t name
    | _=>none
  | _=>none
def Gv (x:FuncId) (ρ:Operand->Value):Prop:=∀ s k,slotK x s=some k->VK.ok k (ρ (.tmp s))
def okPan (x:FuncId) (o:Op):Bool:=
  match o with
  | .panic (.tmp s)=>match slotK x s with
    | some (.ifc _)=>true
    | _=>false
  | _=>false
def okDy (P:Program) (S:List FuncId) (x:FuncId) (o:Op):Bool:=okOp P S o||(match dynTo P x o with
  | some y=>S.contains y&&noSlots y
  | none=>okPan x o)
theorem okDy_of {P:Program} {x:FuncId} {o:Op} (h:okOp P S o=true):okDy P S x o=true:=by unfold okDy;rw [h];rfl
theorem tame_bind' {α β:Type} {P P₁:Program} {Q:α->Prop} {Q':β->Prop} {s:Sem α} {k:α->Sem β} (hs:Tame P P₁ Q s) (hk:∀ a,Q a->Tame P P₁ Q' (k a)):Tame P P₁ Q' (s >>= k):=tame_bind (tame_mono hk hs)
theorem dyn_tame {o:Oper} {ρ:Operand->Value} {x y:FuncId} (h:dynTo ⟨T,f⟩ x o.op=some y) (hy:y ∈ S) (hS:∀ x ∈ S,Known f g x) (hG:Gv x ρ):Tame ⟨T,f⟩ ⟨T,g⟩ (Plainly S) (execOp ρ o):=by
  unfold dynTo at h
  unfold execOp
  split at h
  · rename_i s as ts e
    simp only [e]
    cases hk:slotK x s with
    | none=>rw [hk] at h;cases h
    | some k =>
      rw [hk] at h
      cases k with
      | ifc t=>cases h
      | fn z =>
        cases h
        rcases hG s _ hk with hu | ⟨a,b,hu⟩
        · have e1:resolve ρ { callee:=.value (.tmp s),args:=as,argTypes:=ts } o.type=stuck "call: function value expected":=by
            show Deferred.ofValue (ρ (.tmp s)) (as.map ρ)=_
            rw [hu]
            rfl
          rw [e1]
          exact trivial
        · have e1:resolve ρ { callee:=.value (.tmp s),args:=as,argTypes:=ts } o.type=pure { target:=.fn (.func y) b,args:=a++as.map ρ }:=by
            show Deferred.ofValue (ρ (.tmp s)) (as.map ρ)=_
            rw [hu]
            rfl
          rw [e1]
          exact t_callFunc hy hS _
  · rename_i s name as ts e
    simp only [e]
    cases hk:slotK x s with
    | none=>rw [hk] at h;cases h
    | some k =>
      rw [hk] at h
      cases k with
      | fn z=>cases h
      | ifc t =>
        dsimp only at h
        have e1:resolve ρ { callee:=.invoke (.tmp s) name,args:=as,argTypes:=ts } o.type=pure { target:=.fn (.method name) #[],args:=#[ρ (.tmp s)]++as.map ρ }:=rfl
        rw [e1]
        have e2:(#[ρ (.tmp s)]++as.map ρ)[0]?=some (ρ (.tmp s)):=by rw [Array.getElem?_append_left (by simp)];rfl
        show Tame ⟨T,f⟩ ⟨T,g⟩ (Plainly S) (invoke (.fn (.method name) #[]) (#[ρ (.tmp s)]++as.map ρ))
        unfold invoke
        simp only [e2]
        rcases hG s _ hk with hu | ⟨u,hu⟩
        · rw [hu]
          exact trivial
        · rw [hu]
          unfold callMethod
          dsimp only
          refine t_prog rfl ?_
          refine tame_bind' (t_method h (T.types.size+99) u) (fun r hr=>?_)
          obtain ⟨r1,r2⟩:=r
          cases hr
          exact t_callFunc hy hS _
  · cases h
theorem pan_tame {o:Oper} {ρ:Operand->Value} {x:FuncId} (h:okPan x o.op=true) (hG:Gv x ρ):Tame ⟨T,f⟩ ⟨T,g⟩ (Plainly S) (execOp ρ o):=by
  unfold okPan at h
  unfold execOp
  split at h
  · rename_i s e
    simp only [e]
    split at h
    · rename_i t hk
      refine okv ?_
      rcases hG s _ hk with hu | ⟨u,hu⟩
      · rw [hu];exact trivial
      · rw [hu];exact trivial
    · cases h
  · cases h
theorem okDy_tame {o:Oper} {ρ:Operand->Value} {x:FuncId} (hρ:∀ x,ρ (.func x) = .func (.func x) #[] #[]) (h:okDy ⟨T,f⟩ S x o.op=true) (hS:∀ x ∈ S,Known f g x) (hG:Gv x ρ):Tame ⟨T,f⟩ ⟨T,g⟩ (Plainly S) (execOp ρ o):=by
  unfold okDy at h
  rcases Bool.or_eq_true_iff.1 h with h | h
  · exact ok_tame hρ h hS
  · cases hd:dynTo ⟨T,f⟩ x o.op with
    | none=>rw [hd] at h;exact pan_tame h hG
    | some y =>
      rw [hd] at h
      exact dyn_tame hd (by simpa using (Bool.and_eq_true_iff.1 h).1) hS hG
end
end Go.Proofs.YteaieagkjepgiaaGreatDoor
