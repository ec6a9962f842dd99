/- Texts of ours, laid one behind the other: TRows. -/
import Derived.Test.YtfhcpehfmecpjaaPk13
set_option linter.unusedVariables false
set_option linter.unusedSimpArgs false
/- The twin's tables and functions: the facts of the program's own, said of the twin, each by the kernel (written by gen/mktw.py). -/
namespace Go.Proofs
open Go
noncomputable def Tw.prog : Program := Go.Proofs.Ytfhcpehfmecpjaa.tw
@[simp] theorem Tw.call10 : ∀ (args : Array Go.Value) (w : Go.World), Go.Sem.run Tw.prog (Go.callFunc 10 args) w = Go.Result.ok (Go.Next.enter 10 args) w := fun args w => by kernel_rfl
@[simp] theorem Tw.call11 : ∀ (args : Array Go.Value) (w : Go.World), Go.Sem.run Tw.prog (Go.callFunc 11 args) w = Go.Result.ok (Go.Next.enter 11 args) w := fun args w => by kernel_rfl
@[simp] theorem Tw.call12 : ∀ (args : Array Go.Value) (w : Go.World), Go.Sem.run Tw.prog (Go.callFunc 12 args) w = Go.Result.ok (Go.Next.enter 12 args) w := fun args w => by kernel_rfl
@[simp] theorem Tw.call13 : ∀ (args : Array Go.Value) (w : Go.World), Go.Sem.run Tw.prog (Go.callFunc 13 args) w = Go.Result.ok (Go.Next.enter 13 args) w := fun args w => by kernel_rfl
@[simp] theorem Tw.call14 : ∀ (args : Array Go.Value) (w : Go.World), Go.Sem.run Tw.prog (Go.callFunc 14 args) w = Go.Result.ok (Go.Next.enter 14 args) w := fun args w => by kernel_rfl
@[simp] theorem Tw.call15 : ∀ (args : Array Go.Value) (w : Go.World), Go.Sem.run Tw.prog (Go.callFunc 15 args) w = Go.Result.ok (Go.Next.enter 15 args) w := fun args w => by kernel_rfl
@[simp] theorem Tw.call16 : ∀ (args : Array Go.Value) (w : Go.World), Go.Sem.run Tw.prog (Go.callFunc 16 args) w = Go.Result.ok (Go.Next.enter 16 args) w := fun args w => by kernel_rfl
@[simp] theorem Tw.call17 : ∀ (args : Array Go.Value) (w : Go.World), Go.Sem.run Tw.prog (Go.callFunc 17 args) w = Go.Result.ok (Go.Next.enter 17 args) w := fun args w => by kernel_rfl
@[simp] theorem Tw.call18 : ∀ (args : Array Go.Value) (w : Go.World), Go.Sem.run Tw.prog (Go.callFunc 18 args) w = Go.Result.ok (Go.Next.enter 18 args) w := fun args w => by kernel_rfl
@[simp] theorem Tw.call19 : ∀ (args : Array Go.Value) (w : Go.World), Go.Sem.run Tw.prog (Go.callFunc 19 args) w = Go.Result.ok (Go.Next.enter 19 args) w := fun args w => by kernel_rfl
@[simp] theorem Tw.call2 : ∀ (args : Array Go.Value) (w : Go.World), Go.Sem.run Tw.prog (Go.callFunc 2 args) w = Go.Result.ok (Go.Next.enter 2 args) w := fun args w => by kernel_rfl
@[simp] theorem Tw.call20 : ∀ (args : Array Go.Value) (w : Go.World), Go.Sem.run Tw.prog (Go.callFunc 20 args) w = Go.Result.ok (Go.Next.enter 20 args) w := fun args w => by kernel_rfl
@[simp] theorem Tw.call21 : ∀ (args : Array Go.Value) (w : Go.World), Go.Sem.run Tw.prog (Go.callFunc 21 args) w = Go.Result.ok (Go.Next.enter 21 args) w := fun args w => by kernel_rfl
@[simp] theorem Tw.call22 : ∀ (args : Array Go.Value) (w : Go.World), Go.Sem.run Tw.prog (Go.callFunc 22 args) w = Go.Result.ok (Go.Next.enter 22 args) w := fun args w => by kernel_rfl
@[simp] theorem Tw.call23 : ∀ (args : Array Go.Value) (w : Go.World), Go.Sem.run Tw.prog (Go.callFunc 23 args) w = Go.Result.ok (Go.Next.enter 23 args) w := fun args w => by kernel_rfl
@[simp] theorem Tw.call24 : ∀ (args : Array Go.Value) (w : Go.World), Go.Sem.run Tw.prog (Go.callFunc 24 args) w = Go.Result.ok (Go.Next.enter 24 args) w := fun args w => by kernel_rfl
@[simp] theorem Tw.call25 : ∀ (args : Array Go.Value) (w : Go.World), Go.Sem.run Tw.prog (Go.callFunc 25 args) w = Go.Result.ok (Go.Next.enter 25 args) w := fun args w => by kernel_rfl
@[simp] theorem Tw.call26 : ∀ (args : Array Go.Value) (w : Go.World), Go.Sem.run Tw.prog (Go.callFunc 26 args) w = Go.Result.ok (Go.Next.enter 26 args) w := fun args w => by kernel_rfl
@[simp] theorem Tw.call27 : ∀ (args : Array Go.Value) (w : Go.World), Go.Sem.run Tw.prog (Go.callFunc 27 args) w = Go.Result.ok (Go.Next.enter 27 args) w := fun args w => by kernel_rfl
@[simp] theorem Tw.call28 : ∀ (args : Array Go.Value) (w : Go.World), Go.Sem.run Tw.prog (Go.callFunc 28 args) w = Go.Result.ok (Go.Next.enter 28 args) w := fun args w => by kernel_rfl
@[simp] theorem Tw.call29 : ∀ (args : Array Go.Value) (w : Go.World), Go.Sem.run Tw.prog (Go.callFunc 29 args) w = Go.Result.ok (Go.Next.enter 29 args) w := fun args w => by kernel_rfl
@[simp] theorem Tw.call3 : ∀ (args : Array Go.Value) (w : Go.World), Go.Sem.run Tw.prog (Go.callFunc 3 args) w = Go.Result.ok (Go.Next.enter 3 args) w := fun args w => by kernel_rfl
@[simp] theorem Tw.call30 : ∀ (args : Array Go.Value) (w : Go.World), Go.Sem.run Tw.prog (Go.callFunc 30 args) w = Go.Result.ok (Go.Next.enter 30 args) w := fun args w => by kernel_rfl
@[simp] theorem Tw.call31 : ∀ (args : Array Go.Value) (w : Go.World), Go.Sem.run Tw.prog (Go.callFunc 31 args) w = Go.Result.ok (Go.Next.enter 31 args) w := fun args w => by kernel_rfl
@[simp] theorem Tw.call32 : ∀ (args : Array Go.Value) (w : Go.World), Go.Sem.run Tw.prog (Go.callFunc 32 args) w = Go.Result.ok (Go.Next.enter 32 args) w := fun args w => by kernel_rfl
@[simp] theorem Tw.call33 : ∀ (args : Array Go.Value) (w : Go.World), Go.Sem.run Tw.prog (Go.callFunc 33 args) w = Go.Result.ok (Go.Next.enter 33 args) w := fun args w => by kernel_rfl
@[simp] theorem Tw.call4 : ∀ (args : Array Go.Value) (w : Go.World), Go.Sem.run Tw.prog (Go.callFunc 4 args) w = Go.Result.ok (Go.Next.enter 4 args) w := fun args w => by kernel_rfl
@[simp] theorem Tw.call5 : ∀ (args : Array Go.Value) (w : Go.World), Go.Sem.run Tw.prog (Go.callFunc 5 args) w = Go.Result.ok (Go.Next.enter 5 args) w := fun args w => by kernel_rfl
@[simp] theorem Tw.call6 : ∀ (args : Array Go.Value) (w : Go.World), Go.Sem.run Tw.prog (Go.callFunc 6 args) w = Go.Result.ok (Go.Next.enter 6 args) w := fun args w => by kernel_rfl
@[simp] theorem Tw.call7 : ∀ (args : Array Go.Value) (w : Go.World), Go.Sem.run Tw.prog (Go.callFunc 7 args) w = Go.Result.ok (Go.Next.enter 7 args) w := fun args w => by kernel_rfl
@[simp] theorem Tw.call8 : ∀ (args : Array Go.Value) (w : Go.World), Go.Sem.run Tw.prog (Go.callFunc 8 args) w = Go.Result.ok (Go.Next.enter 8 args) w := fun args w => by kernel_rfl
@[simp] theorem Tw.call9 : ∀ (args : Array Go.Value) (w : Go.World), Go.Sem.run Tw.prog (Go.callFunc 9 args) w = Go.Result.ok (Go.Next.enter 9 args) w := fun args w => by kernel_rfl
@[simp] theorem Tw.eqGuardType13 : Tw.prog.eqGuardType Tw.prog.depth 13 = Bool.false := by kernel_rfl
@[simp] theorem Tw.eqGuardType14 : Tw.prog.eqGuardType Tw.prog.depth 14 = Bool.false := by kernel_rfl
@[simp] theorem Tw.eqGuardType18 : Tw.prog.eqGuardType Tw.prog.depth 18 = Bool.false := by kernel_rfl
@[simp] theorem Tw.eqGuardType19 : Tw.prog.eqGuardType Tw.prog.depth 19 = Bool.false := by kernel_rfl
@[simp] theorem Tw.eqGuardType47 : Tw.prog.eqGuardType Tw.prog.depth 47 = Bool.false := by kernel_rfl
@[simp] theorem Tw.eqGuardType48 : Tw.prog.eqGuardType Tw.prog.depth 48 = Bool.false := by kernel_rfl
@[simp] theorem Tw.eqGuardType55 : Tw.prog.eqGuardType Tw.prog.depth 55 = Bool.false := by kernel_rfl
@[simp] theorem Tw.eqGuardType56 : Tw.prog.eqGuardType Tw.prog.depth 56 = Bool.false := by kernel_rfl
@[simp] theorem Tw.eqGuardType63 : Tw.prog.eqGuardType Tw.prog.depth 63 = Bool.false := by kernel_rfl
@[simp] theorem Tw.eqGuardType64 : Tw.prog.eqGuardType Tw.prog.depth 64 = Bool.false := by kernel_rfl
@[simp] theorem Tw.eqGuardType65 : Tw.prog.eqGuardType Tw.prog.depth 65 = Bool.false := by kernel_rfl
@[simp] theorem Tw.eqGuardType66 : Tw.prog.eqGuardType Tw.prog.depth 66 = Bool.false := by kernel_rfl
@[simp] theorem Tw.eqGuardType67 : Tw.prog.eqGuardType Tw.prog.depth 67 = Bool.false := by kernel_rfl
@[simp] theorem Tw.eqGuardType7 : Tw.prog.eqGuardType Tw.prog.depth 7 = Bool.false := by kernel_rfl
@[simp] theorem Tw.eqGuardType75 : Tw.prog.eqGuardType Tw.prog.depth 75 = Bool.false := by kernel_rfl
@[simp] theorem Tw.eqGuardType76 : Tw.prog.eqGuardType Tw.prog.depth 76 = Bool.false := by kernel_rfl
@[simp] theorem Tw.eqGuardType8 : Tw.prog.eqGuardType Tw.prog.depth 8 = Bool.false := by kernel_rfl
@[simp] theorem Tw.func0 : Tw.prog.funcs[0]? = Option.some Go.Proofs.Try.f0 := by kernel_rfl
@[simp] theorem Tw.func1 : Tw.prog.funcs[1]? = Option.some Go.Proofs.Try.f1 := by kernel_rfl
@[simp] theorem Tw.func10 : Tw.prog.funcs[10]? = Option.some Go.Proofs.Try.f10 := by kernel_rfl
@[simp] theorem Tw.func11 : Tw.prog.funcs[11]? = Option.some Go.Proofs.Try.f11 := by kernel_rfl
@[simp] theorem Tw.func12 : Tw.prog.funcs[12]? = Option.some Go.Proofs.Try.f12 := by kernel_rfl
@[simp] theorem Tw.func13 : Tw.prog.funcs[13]? = Option.some Go.Proofs.Try.f13 := by kernel_rfl
@[simp] theorem Tw.func14 : Tw.prog.funcs[14]? = Option.some Go.Proofs.Try.f14 := by kernel_rfl
@[simp] theorem Tw.func15 : Tw.prog.funcs[15]? = Option.some Go.Proofs.Try.f15 := by kernel_rfl
@[simp] theorem Tw.func16 : Tw.prog.funcs[16]? = Option.some Go.Proofs.Try.f16 := by kernel_rfl
@[simp] theorem Tw.func17 : Tw.prog.funcs[17]? = Option.some Go.Proofs.Try.f17 := by kernel_rfl
@[simp] theorem Tw.func18 : Tw.prog.funcs[18]? = Option.some Go.Proofs.Try.f18 := by kernel_rfl
@[simp] theorem Tw.func19 : Tw.prog.funcs[19]? = Option.some Go.Proofs.Try.f19 := by kernel_rfl
@[simp] theorem Tw.func2 : Tw.prog.funcs[2]? = Option.some Go.Proofs.Try.f2 := by kernel_rfl
@[simp] theorem Tw.func20 : Tw.prog.funcs[20]? = Option.some Go.Proofs.Try.f20 := by kernel_rfl
@[simp] theorem Tw.func21 : Tw.prog.funcs[21]? = Option.some Go.Proofs.Try.f21 := by kernel_rfl
@[simp] theorem Tw.func22 : Tw.prog.funcs[22]? = Option.some Go.Proofs.Try.f22 := by kernel_rfl
@[simp] theorem Tw.func23 : Tw.prog.funcs[23]? = Option.some Go.Proofs.Try.f23 := by kernel_rfl
@[simp] theorem Tw.func24 : Tw.prog.funcs[24]? = some Go.Proofs.Ytfhcpehfmecpjaa.cellsT := by kernel_rfl
@[simp] theorem Tw.func25 : Tw.prog.funcs[25]? = Option.some Go.Proofs.Try.f25 := by kernel_rfl
@[simp] theorem Tw.func26 : Tw.prog.funcs[26]? = Option.some Go.Proofs.Try.f26 := by kernel_rfl
@[simp] theorem Tw.func27 : Tw.prog.funcs[27]? = Option.some Go.Proofs.Try.f27 := by kernel_rfl
@[simp] theorem Tw.func28 : Tw.prog.funcs[28]? = Option.some Go.Proofs.Try.f28 := by kernel_rfl
@[simp] theorem Tw.func29 : Tw.prog.funcs[29]? = Option.some Go.Proofs.Try.f29 := by kernel_rfl
@[simp] theorem Tw.func3 : Tw.prog.funcs[3]? = Option.some Go.Proofs.Try.f3 := by kernel_rfl
@[simp] theorem Tw.func30 : Tw.prog.funcs[30]? = Option.some Go.Proofs.Try.f30 := by kernel_rfl
@[simp] theorem Tw.func31 : Tw.prog.funcs[31]? = Option.some Go.Proofs.Try.f31 := by kernel_rfl
@[simp] theorem Tw.func32 : Tw.prog.funcs[32]? = Option.some Go.Proofs.Try.f32 := by kernel_rfl
@[simp] theorem Tw.func33 : Tw.prog.funcs[33]? = Option.some Go.Proofs.Try.f33 := by kernel_rfl
@[simp] theorem Tw.func34 : Tw.prog.funcs[34]? = Option.some Go.Proofs.Try.f34 := by kernel_rfl
@[simp] theorem Tw.func35 : Tw.prog.funcs[35]? = Option.some Go.Proofs.Try.f35 := by kernel_rfl
@[simp] theorem Tw.func36 : Tw.prog.funcs[36]? = Option.some Go.Proofs.Try.f36 := by kernel_rfl
@[simp] theorem Tw.func37 : Tw.prog.funcs[37]? = Option.some Go.Proofs.Try.f37 := by kernel_rfl
@[simp] theorem Tw.func38 : Tw.prog.funcs[38]? = Option.some Go.Proofs.Try.f38 := by kernel_rfl
@[simp] theorem Tw.func39 : Tw.prog.funcs[39]? = Option.some Go.Proofs.Try.f39 := by kernel_rfl
@[simp] theorem Tw.func4 : Tw.prog.funcs[4]? = Option.some Go.Proofs.Try.f4 := by kernel_rfl
@[simp] theorem Tw.func40 : Tw.prog.funcs[40]? = Option.some Go.Proofs.Try.f40 := by kernel_rfl
@[simp] theorem Tw.func41 : Tw.prog.funcs[41]? = Option.some Go.Proofs.Try.f41 := by kernel_rfl
@[simp] theorem Tw.func42 : Tw.prog.funcs[42]? = Option.some Go.Proofs.Try.f42 := by kernel_rfl
@[simp] theorem Tw.func43 : Tw.prog.funcs[43]? = Option.some Go.Proofs.Try.f43 := by kernel_rfl
@[simp] theorem Tw.func44 : Tw.prog.funcs[44]? = Option.some Go.Proofs.Try.f44 := by kernel_rfl
@[simp] theorem Tw.func45 : Tw.prog.funcs[45]? = Option.some Go.Proofs.Try.f45 := by kernel_rfl
@[simp] theorem Tw.func46 : Tw.prog.funcs[46]? = Option.some Go.Proofs.Try.f46 := by kernel_rfl
@[simp] theorem Tw.func47 : Tw.prog.funcs[47]? = Option.some Go.Proofs.Try.f47 := by kernel_rfl
@[simp] theorem Tw.func48 : Tw.prog.funcs[48]? = Option.some Go.Proofs.Try.f48 := by kernel_rfl
@[simp] theorem Tw.func49 : Tw.prog.funcs[49]? = Option.some Go.Proofs.Try.f49 := by kernel_rfl
@[simp] theorem Tw.func5 : Tw.prog.funcs[5]? = Option.some Go.Proofs.Try.f5 := by kernel_rfl
@[simp] theorem Tw.func6 : Tw.prog.funcs[6]? = Option.some Go.Proofs.Try.f6 := by kernel_rfl
@[simp] theorem Tw.func7 : Tw.prog.funcs[7]? = Option.some Go.Proofs.Try.f7 := by kernel_rfl
@[simp] theorem Tw.func8 : Tw.prog.funcs[8]? = Option.some Go.Proofs.Try.f8 := by kernel_rfl
@[simp] theorem Tw.func9 : Tw.prog.funcs[9]? = Option.some Go.Proofs.Try.f9 := by kernel_rfl
@[simp] theorem Tw.globals_size : Tw.prog.globals.size = 0 := by kernel_rfl
@[simp] theorem Tw.inits_eq : Tw.prog.inits = #[2] := by kernel_rfl
@[simp] theorem Tw.isAgg0 : ∀ (w : Go.World), Go.Sem.run Tw.prog (Go.isAgg 0) w = Go.Result.ok Bool.false w := fun w => by kernel_rfl
@[simp] theorem Tw.isAgg1 : ∀ (w : Go.World), Go.Sem.run Tw.prog (Go.isAgg 1) w = Go.Result.ok Bool.false w := fun w => by kernel_rfl
@[simp] theorem Tw.isAgg10 : ∀ (w : Go.World), Go.Sem.run Tw.prog (Go.isAgg 10) w = Go.Result.ok Bool.false w := fun w => by kernel_rfl
@[simp] theorem Tw.isAgg11 : ∀ (w : Go.World), Go.Sem.run Tw.prog (Go.isAgg 11) w = Go.Result.ok Bool.false w := fun w => by kernel_rfl
@[simp] theorem Tw.isAgg12 : ∀ (w : Go.World), Go.Sem.run Tw.prog (Go.isAgg 12) w = Go.Result.ok Bool.false w := fun w => by kernel_rfl
@[simp] theorem Tw.isAgg13 : ∀ (w : Go.World), Go.Sem.run Tw.prog (Go.isAgg 13) w = Go.Result.ok Bool.true w := fun w => by kernel_rfl
@[simp] theorem Tw.isAgg14 : ∀ (w : Go.World), Go.Sem.run Tw.prog (Go.isAgg 14) w = Go.Result.ok Bool.true w := fun w => by kernel_rfl
@[simp] theorem Tw.isAgg15 : ∀ (w : Go.World), Go.Sem.run Tw.prog (Go.isAgg 15) w = Go.Result.ok Bool.false w := fun w => by kernel_rfl
@[simp] theorem Tw.isAgg16 : ∀ (w : Go.World), Go.Sem.run Tw.prog (Go.isAgg 16) w = Go.Result.ok Bool.false w := fun w => by kernel_rfl
@[simp] theorem Tw.isAgg17 : ∀ (w : Go.World), Go.Sem.run Tw.prog (Go.isAgg 17) w = Go.Result.ok Bool.false w := fun w => by kernel_rfl
@[simp] theorem Tw.isAgg18 : ∀ (w : Go.World), Go.Sem.run Tw.prog (Go.isAgg 18) w = Go.Result.ok Bool.true w := fun w => by kernel_rfl
@[simp] theorem Tw.isAgg19 : ∀ (w : Go.World), Go.Sem.run Tw.prog (Go.isAgg 19) w = Go.Result.ok Bool.true w := fun w => by kernel_rfl
@[simp] theorem Tw.isAgg2 : ∀ (w : Go.World), Go.Sem.run Tw.prog (Go.isAgg 2) w = Go.Result.ok Bool.false w := fun w => by kernel_rfl
@[simp] theorem Tw.isAgg20 : ∀ (w : Go.World), Go.Sem.run Tw.prog (Go.isAgg 20) w = Go.Result.ok Bool.false w := fun w => by kernel_rfl
@[simp] theorem Tw.isAgg21 : ∀ (w : Go.World), Go.Sem.run Tw.prog (Go.isAgg 21) w = Go.Result.ok Bool.false w := fun w => by kernel_rfl
@[simp] theorem Tw.isAgg22 : ∀ (w : Go.World), Go.Sem.run Tw.prog (Go.isAgg 22) w = Go.Result.ok Bool.false w := fun w => by kernel_rfl
@[simp] theorem Tw.isAgg23 : ∀ (w : Go.World), Go.Sem.run Tw.prog (Go.isAgg 23) w = Go.Result.ok Bool.false w := fun w => by kernel_rfl
@[simp] theorem Tw.isAgg24 : ∀ (w : Go.World), Go.Sem.run Tw.prog (Go.isAgg 24) w = Go.Result.ok Bool.false w := fun w => by kernel_rfl
@[simp] theorem Tw.isAgg25 : ∀ (w : Go.World), Go.Sem.run Tw.prog (Go.isAgg 25) w = Go.Result.ok Bool.false w := fun w => by kernel_rfl
@[simp] theorem Tw.isAgg26 : ∀ (w : Go.World), Go.Sem.run Tw.prog (Go.isAgg 26) w = Go.Result.ok Bool.false w := fun w => by kernel_rfl
@[simp] theorem Tw.isAgg27 : ∀ (w : Go.World), Go.Sem.run Tw.prog (Go.isAgg 27) w = Go.Result.ok Bool.false w := fun w => by kernel_rfl
@[simp] theorem Tw.isAgg28 : ∀ (w : Go.World), Go.Sem.run Tw.prog (Go.isAgg 28) w = Go.Result.ok Bool.false w := fun w => by kernel_rfl
@[simp] theorem Tw.isAgg29 : ∀ (w : Go.World), Go.Sem.run Tw.prog (Go.isAgg 29) w = Go.Result.ok Bool.false w := fun w => by kernel_rfl
@[simp] theorem Tw.isAgg3 : ∀ (w : Go.World), Go.Sem.run Tw.prog (Go.isAgg 3) w = Go.Result.ok Bool.false w := fun w => by kernel_rfl
@[simp] theorem Tw.isAgg30 : ∀ (w : Go.World), Go.Sem.run Tw.prog (Go.isAgg 30) w = Go.Result.ok Bool.false w := fun w => by kernel_rfl
@[simp] theorem Tw.isAgg31 : ∀ (w : Go.World), Go.Sem.run Tw.prog (Go.isAgg 31) w = Go.Result.ok Bool.false w := fun w => by kernel_rfl
@[simp] theorem Tw.isAgg32 : ∀ (w : Go.World), Go.Sem.run Tw.prog (Go.isAgg 32) w = Go.Result.ok Bool.false w := fun w => by kernel_rfl
@[simp] theorem Tw.isAgg33 : ∀ (w : Go.World), Go.Sem.run Tw.prog (Go.isAgg 33) w = Go.Result.ok Bool.false w := fun w => by kernel_rfl
@[simp] theorem Tw.isAgg34 : ∀ (w : Go.World), Go.Sem.run Tw.prog (Go.isAgg 34) w = Go.Result.ok Bool.false w := fun w => by kernel_rfl
@[simp] theorem Tw.isAgg35 : ∀ (w : Go.World), Go.Sem.run Tw.prog (Go.isAgg 35) w = Go.Result.ok Bool.false w := fun w => by kernel_rfl
@[simp] theorem Tw.isAgg36 : ∀ (w : Go.World), Go.Sem.run Tw.prog (Go.isAgg 36) w = Go.Result.ok Bool.false w := fun w => by kernel_rfl
@[simp] theorem Tw.isAgg37 : ∀ (w : Go.World), Go.Sem.run Tw.prog (Go.isAgg 37) w = Go.Result.ok Bool.false w := fun w => by kernel_rfl
@[simp] theorem Tw.isAgg38 : ∀ (w : Go.World), Go.Sem.run Tw.prog (Go.isAgg 38) w = Go.Result.ok Bool.false w := fun w => by kernel_rfl
@[simp] theorem Tw.isAgg39 : ∀ (w : Go.World), Go.Sem.run Tw.prog (Go.isAgg 39) w = Go.Result.ok Bool.false w := fun w => by kernel_rfl
@[simp] theorem Tw.isAgg4 : ∀ (w : Go.World), Go.Sem.run Tw.prog (Go.isAgg 4) w = Go.Result.ok Bool.false w := fun w => by kernel_rfl
@[simp] theorem Tw.isAgg40 : ∀ (w : Go.World), Go.Sem.run Tw.prog (Go.isAgg 40) w = Go.Result.ok Bool.false w := fun w => by kernel_rfl
@[simp] theorem Tw.isAgg41 : ∀ (w : Go.World), Go.Sem.run Tw.prog (Go.isAgg 41) w = Go.Result.ok Bool.false w := fun w => by kernel_rfl
@[simp] theorem Tw.isAgg42 : ∀ (w : Go.World), Go.Sem.run Tw.prog (Go.isAgg 42) w = Go.Result.ok Bool.false w := fun w => by kernel_rfl
@[simp] theorem Tw.isAgg43 : ∀ (w : Go.World), Go.Sem.run Tw.prog (Go.isAgg 43) w = Go.Result.ok Bool.false w := fun w => by kernel_rfl
@[simp] theorem Tw.isAgg44 : ∀ (w : Go.World), Go.Sem.run Tw.prog (Go.isAgg 44) w = Go.Result.ok Bool.false w := fun w => by kernel_rfl
@[simp] theorem Tw.isAgg45 : ∀ (w : Go.World), Go.Sem.run Tw.prog (Go.isAgg 45) w = Go.Result.ok Bool.false w := fun w => by kernel_rfl
@[simp] theorem Tw.isAgg46 : ∀ (w : Go.World), Go.Sem.run Tw.prog (Go.isAgg 46) w = Go.Result.ok Bool.false w := fun w => by kernel_rfl
@[simp] theorem Tw.isAgg47 : ∀ (w : Go.World), Go.Sem.run Tw.prog (Go.isAgg 47) w = Go.Result.ok Bool.true w := fun w => by kernel_rfl
@[simp] theorem Tw.isAgg48 : ∀ (w : Go.World), Go.Sem.run Tw.prog (Go.isAgg 48) w = Go.Result.ok Bool.true w := fun w => by kernel_rfl
@[simp] theorem Tw.isAgg49 : ∀ (w : Go.World), Go.Sem.run Tw.prog (Go.isAgg 49) w = Go.Result.ok Bool.false w := fun w => by kernel_rfl
@[simp] theorem Tw.isAgg5 : ∀ (w : Go.World), Go.Sem.run Tw.prog (Go.isAgg 5) w = Go.Result.ok Bool.false w := fun w => by kernel_rfl
@[simp] theorem Tw.isAgg50 : ∀ (w : Go.World), Go.Sem.run Tw.prog (Go.isAgg 50) w = Go.Result.ok Bool.false w := fun w => by kernel_rfl
@[simp] theorem Tw.isAgg51 : ∀ (w : Go.World), Go.Sem.run Tw.prog (Go.isAgg 51) w = Go.Result.ok Bool.false w := fun w => by kernel_rfl
@[simp] theorem Tw.isAgg52 : ∀ (w : Go.World), Go.Sem.run Tw.prog (Go.isAgg 52) w = Go.Result.ok Bool.false w := fun w => by kernel_rfl
@[simp] theorem Tw.isAgg53 : ∀ (w : Go.World), Go.Sem.run Tw.prog (Go.isAgg 53) w = Go.Result.ok Bool.false w := fun w => by kernel_rfl
@[simp] theorem Tw.isAgg54 : ∀ (w : Go.World), Go.Sem.run Tw.prog (Go.isAgg 54) w = Go.Result.ok Bool.false w := fun w => by kernel_rfl
@[simp] theorem Tw.isAgg55 : ∀ (w : Go.World), Go.Sem.run Tw.prog (Go.isAgg 55) w = Go.Result.ok Bool.true w := fun w => by kernel_rfl
@[simp] theorem Tw.isAgg56 : ∀ (w : Go.World), Go.Sem.run Tw.prog (Go.isAgg 56) w = Go.Result.ok Bool.true w := fun w => by kernel_rfl
@[simp] theorem Tw.isAgg57 : ∀ (w : Go.World), Go.Sem.run Tw.prog (Go.isAgg 57) w = Go.Result.ok Bool.false w := fun w => by kernel_rfl
@[simp] theorem Tw.isAgg58 : ∀ (w : Go.World), Go.Sem.run Tw.prog (Go.isAgg 58) w = Go.Result.ok Bool.false w := fun w => by kernel_rfl
@[simp] theorem Tw.isAgg59 : ∀ (w : Go.World), Go.Sem.run Tw.prog (Go.isAgg 59) w = Go.Result.ok Bool.false w := fun w => by kernel_rfl
@[simp] theorem Tw.isAgg6 : ∀ (w : Go.World), Go.Sem.run Tw.prog (Go.isAgg 6) w = Go.Result.ok Bool.false w := fun w => by kernel_rfl
@[simp] theorem Tw.isAgg60 : ∀ (w : Go.World), Go.Sem.run Tw.prog (Go.isAgg 60) w = Go.Result.ok Bool.false w := fun w => by kernel_rfl
@[simp] theorem Tw.isAgg61 : ∀ (w : Go.World), Go.Sem.run Tw.prog (Go.isAgg 61) w = Go.Result.ok Bool.false w := fun w => by kernel_rfl
@[simp] theorem Tw.isAgg62 : ∀ (w : Go.World), Go.Sem.run Tw.prog (Go.isAgg 62) w = Go.Result.ok Bool.false w := fun w => by kernel_rfl
@[simp] theorem Tw.isAgg63 : ∀ (w : Go.World), Go.Sem.run Tw.prog (Go.isAgg 63) w = Go.Result.ok Bool.true w := fun w => by kernel_rfl
@[simp] theorem Tw.isAgg64 : ∀ (w : Go.World), Go.Sem.run Tw.prog (Go.isAgg 64) w = Go.Result.ok Bool.true w := fun w => by kernel_rfl
@[simp] theorem Tw.isAgg65 : ∀ (w : Go.World), Go.Sem.run Tw.prog (Go.isAgg 65) w = Go.Result.ok Bool.true w := fun w => by kernel_rfl
@[simp] theorem Tw.isAgg66 : ∀ (w : Go.World), Go.Sem.run Tw.prog (Go.isAgg 66) w = Go.Result.ok Bool.true w := fun w => by kernel_rfl
@[simp] theorem Tw.isAgg67 : ∀ (w : Go.World), Go.Sem.run Tw.prog (Go.isAgg 67) w = Go.Result.ok Bool.true w := fun w => by kernel_rfl
@[simp] theorem Tw.isAgg68 : ∀ (w : Go.World), Go.Sem.run Tw.prog (Go.isAgg 68) w = Go.Result.ok Bool.false w := fun w => by kernel_rfl
@[simp] theorem Tw.isAgg69 : ∀ (w : Go.World), Go.Sem.run Tw.prog (Go.isAgg 69) w = Go.Result.ok Bool.false w := fun w => by kernel_rfl
@[simp] theorem Tw.isAgg7 : ∀ (w : Go.World), Go.Sem.run Tw.prog (Go.isAgg 7) w = Go.Result.ok Bool.true w := fun w => by kernel_rfl
@[simp] theorem Tw.isAgg70 : ∀ (w : Go.World), Go.Sem.run Tw.prog (Go.isAgg 70) w = Go.Result.ok Bool.false w := fun w => by kernel_rfl
@[simp] theorem Tw.isAgg71 : ∀ (w : Go.World), Go.Sem.run Tw.prog (Go.isAgg 71) w = Go.Result.ok Bool.false w := fun w => by kernel_rfl
@[simp] theorem Tw.isAgg72 : ∀ (w : Go.World), Go.Sem.run Tw.prog (Go.isAgg 72) w = Go.Result.ok Bool.false w := fun w => by kernel_rfl
@[simp] theorem Tw.isAgg73 : ∀ (w : Go.World), Go.Sem.run Tw.prog (Go.isAgg 73) w = Go.Result.ok Bool.false w := fun w => by kernel_rfl
@[simp] theorem Tw.isAgg74 : ∀ (w : Go.World), Go.Sem.run Tw.prog (Go.isAgg 74) w = Go.Result.ok Bool.false w := fun w => by kernel_rfl
@[simp] theorem Tw.isAgg75 : ∀ (w : Go.World), Go.Sem.run Tw.prog (Go.isAgg 75) w = Go.Result.ok Bool.true w := fun w => by kernel_rfl
@[simp] theorem Tw.isAgg76 : ∀ (w : Go.World), Go.Sem.run Tw.prog (Go.isAgg 76) w = Go.Result.ok Bool.true w := fun w => by kernel_rfl
@[simp] theorem Tw.isAgg77 : ∀ (w : Go.World), Go.Sem.run Tw.prog (Go.isAgg 77) w = Go.Result.ok Bool.false w := fun w => by kernel_rfl
@[simp] theorem Tw.isAgg8 : ∀ (w : Go.World), Go.Sem.run Tw.prog (Go.isAgg 8) w = Go.Result.ok Bool.true w := fun w => by kernel_rfl
@[simp] theorem Tw.isAgg9 : ∀ (w : Go.World), Go.Sem.run Tw.prog (Go.isAgg 9) w = Go.Result.ok Bool.false w := fun w => by kernel_rfl
@[simp] theorem Tw.main_eq : Tw.prog.main = 0 := by kernel_rfl
theorem Tw.nfree0 : Go.Proofs.Try.f0.nfree = 0 := Go.Proofs.Try.nfree0
theorem Tw.nfree1 : Go.Proofs.Try.f1.nfree = 0 := Go.Proofs.Try.nfree1
theorem Tw.nfree10 : Go.Proofs.Try.f10.nfree = 0 := Go.Proofs.Try.nfree10
theorem Tw.nfree11 : Go.Proofs.Try.f11.nfree = 0 := Go.Proofs.Try.nfree11
theorem Tw.nfree12 : Go.Proofs.Try.f12.nfree = 0 := Go.Proofs.Try.nfree12
theorem Tw.nfree13 : Go.Proofs.Try.f13.nfree = 0 := Go.Proofs.Try.nfree13
theorem Tw.nfree14 : Go.Proofs.Try.f14.nfree = 0 := Go.Proofs.Try.nfree14
theorem Tw.nfree15 : Go.Proofs.Try.f15.nfree = 0 := Go.Proofs.Try.nfree15
theorem Tw.nfree16 : Go.Proofs.Try.f16.nfree = 0 := Go.Proofs.Try.nfree16
theorem Tw.nfree17 : Go.Proofs.Try.f17.nfree = 0 := Go.Proofs.Try.nfree17
theorem Tw.nfree18 : Go.Proofs.Try.f18.nfree = 0 := Go.Proofs.Try.nfree18
theorem Tw.nfree19 : Go.Proofs.Try.f19.nfree = 0 := Go.Proofs.Try.nfree19
theorem Tw.nfree2 : Go.Proofs.Try.f2.nfree = 0 := Go.Proofs.Try.nfree2
theorem Tw.nfree20 : Go.Proofs.Try.f20.nfree = 0 := Go.Proofs.Try.nfree20
theorem Tw.nfree21 : Go.Proofs.Try.f21.nfree = 0 := Go.Proofs.Try.nfree21
theorem Tw.nfree22 : Go.Proofs.Try.f22.nfree = 0 := Go.Proofs.Try.nfree22
theorem Tw.nfree23 : Go.Proofs.Try.f23.nfree = 0 := Go.Proofs.Try.nfree23
theorem Tw.nfree25 : Go.Proofs.Try.f25.nfree = 0 := Go.Proofs.Try.nfree25
theorem Tw.nfree26 : Go.Proofs.Try.f26.nfree = 0 := Go.Proofs.Try.nfree26
theorem Tw.nfree27 : Go.Proofs.Try.f27.nfree = 0 := Go.Proofs.Try.nfree27
theorem Tw.nfree28 : Go.Proofs.Try.f28.nfree = 0 := Go.Proofs.Try.nfree28
theorem Tw.nfree29 : Go.Proofs.Try.f29.nfree = 0 := Go.Proofs.Try.nfree29
theorem Tw.nfree3 : Go.Proofs.Try.f3.nfree = 0 := Go.Proofs.Try.nfree3
theorem Tw.nfree30 : Go.Proofs.Try.f30.nfree = 0 := Go.Proofs.Try.nfree30
theorem Tw.nfree31 : Go.Proofs.Try.f31.nfree = 0 := Go.Proofs.Try.nfree31
theorem Tw.nfree32 : Go.Proofs.Try.f32.nfree = 0 := Go.Proofs.Try.nfree32
theorem Tw.nfree33 : Go.Proofs.Try.f33.nfree = 0 := Go.Proofs.Try.nfree33
theorem Tw.nfree34 : Go.Proofs.Try.f34.nfree = 0 := Go.Proofs.Try.nfree34
theorem Tw.nfree35 : Go.Proofs.Try.f35.nfree = 0 := Go.Proofs.Try.nfree35
theorem Tw.nfree36 : Go.Proofs.Try.f36.nfree = 0 := Go.Proofs.Try.nfree36
theorem Tw.nfree37 : Go.Proofs.Try.f37.nfree = 0 := Go.Proofs.Try.nfree37
theorem Tw.nfree38 : Go.Proofs.Try.f38.nfree = 0 := Go.Proofs.Try.nfree38
theorem Tw.nfree39 : Go.Proofs.Try.f39.nfree = 0 := Go.Proofs.Try.nfree39
theorem Tw.nfree4 : Go.Proofs.Try.f4.nfree = 0 := Go.Proofs.Try.nfree4
theorem Tw.nfree40 : Go.Proofs.Try.f40.nfree = 0 := Go.Proofs.Try.nfree40
theorem Tw.nfree41 : Go.Proofs.Try.f41.nfree = 0 := Go.Proofs.Try.nfree41
theorem Tw.nfree42 : Go.Proofs.Try.f42.nfree = 0 := Go.Proofs.Try.nfree42
theorem Tw.nfree43 : Go.Proofs.Try.f43.nfree = 0 := Go.Proofs.Try.nfree43
theorem Tw.nfree44 : Go.Proofs.Try.f44.nfree = 0 := Go.Proofs.Try.nfree44
theorem Tw.nfree45 : Go.Proofs.Try.f45.nfree = 0 := Go.Proofs.Try.nfree45
theorem Tw.nfree46 : Go.Proofs.Try.f46.nfree = 0 := Go.Proofs.Try.nfree46
theorem Tw.nfree47 : Go.Proofs.Try.f47.nfree = 0 := Go.Proofs.Try.nfree47
theorem Tw.nfree48 : Go.Proofs.Try.f48.nfree = 0 := Go.Proofs.Try.nfree48
theorem Tw.nfree49 : Go.Proofs.Try.f49.nfree = 0 := Go.Proofs.Try.nfree49
theorem Tw.nfree5 : Go.Proofs.Try.f5.nfree = 0 := Go.Proofs.Try.nfree5
theorem Tw.nfree6 : Go.Proofs.Try.f6.nfree = 0 := Go.Proofs.Try.nfree6
theorem Tw.nfree7 : Go.Proofs.Try.f7.nfree = 0 := Go.Proofs.Try.nfree7
theorem Tw.nfree8 : Go.Proofs.Try.f8.nfree = 0 := Go.Proofs.Try.nfree8
theorem Tw.nfree9 : Go.Proofs.Try.f9.nfree = 0 := Go.Proofs.Try.nfree9
theorem Tw.ntmps0 : Go.Proofs.Try.f0.ntmps = 0 := Go.Proofs.Try.ntmps0
theorem Tw.ntmps1 : Go.Proofs.Try.f1.ntmps = 0 := Go.Proofs.Try.ntmps1
theorem Tw.ntmps10 : Go.Proofs.Try.f10.ntmps = 21 := Go.Proofs.Try.ntmps10
theorem Tw.ntmps11 : Go.Proofs.Try.f11.ntmps = 59 := Go.Proofs.Try.ntmps11
theorem Tw.ntmps12 : Go.Proofs.Try.f12.ntmps = 26 := Go.Proofs.Try.ntmps12
theorem Tw.ntmps13 : Go.Proofs.Try.f13.ntmps = 20 := Go.Proofs.Try.ntmps13
theorem Tw.ntmps14 : Go.Proofs.Try.f14.ntmps = 22 := Go.Proofs.Try.ntmps14
theorem Tw.ntmps15 : Go.Proofs.Try.f15.ntmps = 28 := Go.Proofs.Try.ntmps15
theorem Tw.ntmps16 : Go.Proofs.Try.f16.ntmps = 70 := Go.Proofs.Try.ntmps16
theorem Tw.ntmps17 : Go.Proofs.Try.f17.ntmps = 22 := Go.Proofs.Try.ntmps17
theorem Tw.ntmps18 : Go.Proofs.Try.f18.ntmps = 32 := Go.Proofs.Try.ntmps18
theorem Tw.ntmps19 : Go.Proofs.Try.f19.ntmps = 37 := Go.Proofs.Try.ntmps19
theorem Tw.ntmps2 : Go.Proofs.Try.f2.ntmps = 1 := Go.Proofs.Try.ntmps2
theorem Tw.ntmps20 : Go.Proofs.Try.f20.ntmps = 23 := Go.Proofs.Try.ntmps20
theorem Tw.ntmps21 : Go.Proofs.Try.f21.ntmps = 15 := Go.Proofs.Try.ntmps21
theorem Tw.ntmps22 : Go.Proofs.Try.f22.ntmps = 12 := Go.Proofs.Try.ntmps22
theorem Tw.ntmps23 : Go.Proofs.Try.f23.ntmps = 15 := Go.Proofs.Try.ntmps23
theorem Tw.ntmps25 : Go.Proofs.Try.f25.ntmps = 5 := Go.Proofs.Try.ntmps25
theorem Tw.ntmps26 : Go.Proofs.Try.f26.ntmps = 58 := Go.Proofs.Try.ntmps26
theorem Tw.ntmps27 : Go.Proofs.Try.f27.ntmps = 12 := Go.Proofs.Try.ntmps27
theorem Tw.ntmps28 : Go.Proofs.Try.f28.ntmps = 46 := Go.Proofs.Try.ntmps28
theorem Tw.ntmps29 : Go.Proofs.Try.f29.ntmps = 20 := Go.Proofs.Try.ntmps29
theorem Tw.ntmps3 : Go.Proofs.Try.f3.ntmps = 107 := Go.Proofs.Try.ntmps3
theorem Tw.ntmps30 : Go.Proofs.Try.f30.ntmps = 15 := Go.Proofs.Try.ntmps30
theorem Tw.ntmps31 : Go.Proofs.Try.f31.ntmps = 32 := Go.Proofs.Try.ntmps31
theorem Tw.ntmps32 : Go.Proofs.Try.f32.ntmps = 18 := Go.Proofs.Try.ntmps32
theorem Tw.ntmps33 : Go.Proofs.Try.f33.ntmps = 53 := Go.Proofs.Try.ntmps33
theorem Tw.ntmps34 : Go.Proofs.Try.f34.ntmps = 1 := Go.Proofs.Try.ntmps34
theorem Tw.ntmps35 : Go.Proofs.Try.f35.ntmps = 1 := Go.Proofs.Try.ntmps35
theorem Tw.ntmps36 : Go.Proofs.Try.f36.ntmps = 1 := Go.Proofs.Try.ntmps36
theorem Tw.ntmps37 : Go.Proofs.Try.f37.ntmps = 1 := Go.Proofs.Try.ntmps37
theorem Tw.ntmps38 : Go.Proofs.Try.f38.ntmps = 1 := Go.Proofs.Try.ntmps38
theorem Tw.ntmps39 : Go.Proofs.Try.f39.ntmps = 1 := Go.Proofs.Try.ntmps39
theorem Tw.ntmps4 : Go.Proofs.Try.f4.ntmps = 71 := Go.Proofs.Try.ntmps4
theorem Tw.ntmps40 : Go.Proofs.Try.f40.ntmps = 1 := Go.Proofs.Try.ntmps40
theorem Tw.ntmps41 : Go.Proofs.Try.f41.ntmps = 1 := Go.Proofs.Try.ntmps41
theorem Tw.ntmps42 : Go.Proofs.Try.f42.ntmps = 1 := Go.Proofs.Try.ntmps42
theorem Tw.ntmps43 : Go.Proofs.Try.f43.ntmps = 1 := Go.Proofs.Try.ntmps43
theorem Tw.ntmps44 : Go.Proofs.Try.f44.ntmps = 1 := Go.Proofs.Try.ntmps44
theorem Tw.ntmps45 : Go.Proofs.Try.f45.ntmps = 1 := Go.Proofs.Try.ntmps45
theorem Tw.ntmps46 : Go.Proofs.Try.f46.ntmps = 1 := Go.Proofs.Try.ntmps46
theorem Tw.ntmps47 : Go.Proofs.Try.f47.ntmps = 1 := Go.Proofs.Try.ntmps47
theorem Tw.ntmps48 : Go.Proofs.Try.f48.ntmps = 1 := Go.Proofs.Try.ntmps48
theorem Tw.ntmps49 : Go.Proofs.Try.f49.ntmps = 1 := Go.Proofs.Try.ntmps49
theorem Tw.ntmps5 : Go.Proofs.Try.f5.ntmps = 48 := Go.Proofs.Try.ntmps5
theorem Tw.ntmps6 : Go.Proofs.Try.f6.ntmps = 6 := Go.Proofs.Try.ntmps6
theorem Tw.ntmps7 : Go.Proofs.Try.f7.ntmps = 19 := Go.Proofs.Try.ntmps7
theorem Tw.ntmps8 : Go.Proofs.Try.f8.ntmps = 50 := Go.Proofs.Try.ntmps8
theorem Tw.ntmps9 : Go.Proofs.Try.f9.ntmps = 67 := Go.Proofs.Try.ntmps9
theorem Tw.params0 : Go.Proofs.Try.f0.params = #[] := Go.Proofs.Try.params0
theorem Tw.params1 : Go.Proofs.Try.f1.params = #[] := Go.Proofs.Try.params1
theorem Tw.params10 : Go.Proofs.Try.f10.params = #[22] := Go.Proofs.Try.params10
theorem Tw.params11 : Go.Proofs.Try.f11.params = #[3, 9] := Go.Proofs.Try.params11
theorem Tw.params12 : Go.Proofs.Try.f12.params = #[26, 26] := Go.Proofs.Try.params12
theorem Tw.params13 : Go.Proofs.Try.f13.params = #[26, 3] := Go.Proofs.Try.params13
theorem Tw.params14 : Go.Proofs.Try.f14.params = #[26, 3] := Go.Proofs.Try.params14
theorem Tw.params15 : Go.Proofs.Try.f15.params = #[26, 3] := Go.Proofs.Try.params15
theorem Tw.params16 : Go.Proofs.Try.f16.params = #[3, 26, 3] := Go.Proofs.Try.params16
theorem Tw.params17 : Go.Proofs.Try.f17.params = #[26] := Go.Proofs.Try.params17
theorem Tw.params18 : Go.Proofs.Try.f18.params = #[22] := Go.Proofs.Try.params18
theorem Tw.params19 : Go.Proofs.Try.f19.params = #[38, 3] := Go.Proofs.Try.params19
theorem Tw.params2 : Go.Proofs.Try.f2.params = #[] := Go.Proofs.Try.params2
theorem Tw.params20 : Go.Proofs.Try.f20.params = #[38, 3] := Go.Proofs.Try.params20
theorem Tw.params21 : Go.Proofs.Try.f21.params = #[3] := Go.Proofs.Try.params21
theorem Tw.params22 : Go.Proofs.Try.f22.params = #[3] := Go.Proofs.Try.params22
theorem Tw.params23 : Go.Proofs.Try.f23.params = #[3] := Go.Proofs.Try.params23
theorem Tw.params25 : Go.Proofs.Try.f25.params = #[9] := Go.Proofs.Try.params25
theorem Tw.params26 : Go.Proofs.Try.f26.params = #[38] := Go.Proofs.Try.params26
theorem Tw.params27 : Go.Proofs.Try.f27.params = #[3] := Go.Proofs.Try.params27
theorem Tw.params28 : Go.Proofs.Try.f28.params = #[3, 3] := Go.Proofs.Try.params28
theorem Tw.params29 : Go.Proofs.Try.f29.params = #[3] := Go.Proofs.Try.params29
theorem Tw.params3 : Go.Proofs.Try.f3.params = #[22] := Go.Proofs.Try.params3
theorem Tw.params30 : Go.Proofs.Try.f30.params = #[3, 3, 3] := Go.Proofs.Try.params30
theorem Tw.params31 : Go.Proofs.Try.f31.params = #[3, 3, 60] := Go.Proofs.Try.params31
theorem Tw.params32 : Go.Proofs.Try.f32.params = #[9] := Go.Proofs.Try.params32
theorem Tw.params33 : Go.Proofs.Try.f33.params = #[3, 3] := Go.Proofs.Try.params33
theorem Tw.params34 : Go.Proofs.Try.f34.params = #[8] := Go.Proofs.Try.params34
theorem Tw.params35 : Go.Proofs.Try.f35.params = #[8] := Go.Proofs.Try.params35
theorem Tw.params36 : Go.Proofs.Try.f36.params = #[10] := Go.Proofs.Try.params36
theorem Tw.params37 : Go.Proofs.Try.f37.params = #[10] := Go.Proofs.Try.params37
theorem Tw.params38 : Go.Proofs.Try.f38.params = #[11] := Go.Proofs.Try.params38
theorem Tw.params39 : Go.Proofs.Try.f39.params = #[11] := Go.Proofs.Try.params39
theorem Tw.params4 : Go.Proofs.Try.f4.params = #[3, 9] := Go.Proofs.Try.params4
theorem Tw.params40 : Go.Proofs.Try.f40.params = #[14] := Go.Proofs.Try.params40
theorem Tw.params41 : Go.Proofs.Try.f41.params = #[14] := Go.Proofs.Try.params41
theorem Tw.params42 : Go.Proofs.Try.f42.params = #[15] := Go.Proofs.Try.params42
theorem Tw.params43 : Go.Proofs.Try.f43.params = #[15] := Go.Proofs.Try.params43
theorem Tw.params44 : Go.Proofs.Try.f44.params = #[16] := Go.Proofs.Try.params44
theorem Tw.params45 : Go.Proofs.Try.f45.params = #[16] := Go.Proofs.Try.params45
theorem Tw.params46 : Go.Proofs.Try.f46.params = #[17] := Go.Proofs.Try.params46
theorem Tw.params47 : Go.Proofs.Try.f47.params = #[19] := Go.Proofs.Try.params47
theorem Tw.params48 : Go.Proofs.Try.f48.params = #[19] := Go.Proofs.Try.params48
theorem Tw.params49 : Go.Proofs.Try.f49.params = #[71] := Go.Proofs.Try.params49
theorem Tw.params5 : Go.Proofs.Try.f5.params = #[3, 26, 3] := Go.Proofs.Try.params5
theorem Tw.params6 : Go.Proofs.Try.f6.params = #[22] := Go.Proofs.Try.params6
theorem Tw.params7 : Go.Proofs.Try.f7.params = #[22] := Go.Proofs.Try.params7
theorem Tw.params8 : Go.Proofs.Try.f8.params = #[3, 9] := Go.Proofs.Try.params8
theorem Tw.params9 : Go.Proofs.Try.f9.params = #[3, 26, 3] := Go.Proofs.Try.params9
theorem Tw.results0 : Go.Proofs.Try.f0.results = #[] := Go.Proofs.Try.results0
theorem Tw.results1 : Go.Proofs.Try.f1.results = #[] := Go.Proofs.Try.results1
theorem Tw.results10 : Go.Proofs.Try.f10.results = #[Go.ResultVar.tmp 2] := Go.Proofs.Try.results10
theorem Tw.results11 : Go.Proofs.Try.f11.results = #[Go.ResultVar.tmp 4, Go.ResultVar.tmp 5] := Go.Proofs.Try.results11
theorem Tw.results12 : Go.Proofs.Try.f12.results = #[Go.ResultVar.tmp 4] := Go.Proofs.Try.results12
theorem Tw.results13 : Go.Proofs.Try.f13.results = #[Go.ResultVar.tmp 4] := Go.Proofs.Try.results13
theorem Tw.results14 : Go.Proofs.Try.f14.results = #[Go.ResultVar.tmp 4] := Go.Proofs.Try.results14
theorem Tw.results15 : Go.Proofs.Try.f15.results = #[Go.ResultVar.tmp 4] := Go.Proofs.Try.results15
theorem Tw.results16 : Go.Proofs.Try.f16.results = #[Go.ResultVar.tmp 6, Go.ResultVar.tmp 7] := Go.Proofs.Try.results16
theorem Tw.results17 : Go.Proofs.Try.f17.results = #[Go.ResultVar.tmp 2] := Go.Proofs.Try.results17
theorem Tw.results18 : Go.Proofs.Try.f18.results = #[Go.ResultVar.tmp 2] := Go.Proofs.Try.results18
theorem Tw.results19 : Go.Proofs.Try.f19.results = #[Go.ResultVar.tmp 4] := Go.Proofs.Try.results19
theorem Tw.results2 : Go.Proofs.Try.f2.results = #[] := Go.Proofs.Try.results2
theorem Tw.results20 : Go.Proofs.Try.f20.results = #[Go.ResultVar.tmp 4] := Go.Proofs.Try.results20
theorem Tw.results21 : Go.Proofs.Try.f21.results = #[Go.ResultVar.tmp 2] := Go.Proofs.Try.results21
theorem Tw.results22 : Go.Proofs.Try.f22.results = #[Go.ResultVar.tmp 2, Go.ResultVar.tmp 3, Go.ResultVar.tmp 4] := Go.Proofs.Try.results22
theorem Tw.results23 : Go.Proofs.Try.f23.results = #[Go.ResultVar.tmp 2] := Go.Proofs.Try.results23
theorem Tw.results25 : Go.Proofs.Try.f25.results = #[Go.ResultVar.tmp 2] := Go.Proofs.Try.results25
theorem Tw.results26 : Go.Proofs.Try.f26.results = #[Go.ResultVar.tmp 2] := Go.Proofs.Try.results26
theorem Tw.results27 : Go.Proofs.Try.f27.results = #[Go.ResultVar.tmp 2, Go.ResultVar.tmp 3, Go.ResultVar.tmp 4] := Go.Proofs.Try.results27
theorem Tw.results28 : Go.Proofs.Try.f28.results = #[Go.ResultVar.tmp 4, Go.ResultVar.tmp 5, Go.ResultVar.tmp 6] := Go.Proofs.Try.results28
theorem Tw.results29 : Go.Proofs.Try.f29.results = #[Go.ResultVar.tmp 2] := Go.Proofs.Try.results29
theorem Tw.results3 : Go.Proofs.Try.f3.results = #[Go.ResultVar.tmp 2] := Go.Proofs.Try.results3
theorem Tw.results30 : Go.Proofs.Try.f30.results = #[Go.ResultVar.tmp 6] := Go.Proofs.Try.results30
theorem Tw.results31 : Go.Proofs.Try.f31.results = #[] := Go.Proofs.Try.results31
theorem Tw.results32 : Go.Proofs.Try.f32.results = #[Go.ResultVar.tmp 2] := Go.Proofs.Try.results32
theorem Tw.results33 : Go.Proofs.Try.f33.results = #[Go.ResultVar.tmp 4, Go.ResultVar.tmp 5, Go.ResultVar.tmp 6] := Go.Proofs.Try.results33
theorem Tw.results34 : Go.Proofs.Try.f34.results = #[] := Go.Proofs.Try.results34
theorem Tw.results35 : Go.Proofs.Try.f35.results = #[] := Go.Proofs.Try.results35
theorem Tw.results36 : Go.Proofs.Try.f36.results = #[] := Go.Proofs.Try.results36
theorem Tw.results37 : Go.Proofs.Try.f37.results = #[] := Go.Proofs.Try.results37
theorem Tw.results38 : Go.Proofs.Try.f38.results = #[] := Go.Proofs.Try.results38
theorem Tw.results39 : Go.Proofs.Try.f39.results = #[] := Go.Proofs.Try.results39
theorem Tw.results4 : Go.Proofs.Try.f4.results = #[Go.ResultVar.tmp 4] := Go.Proofs.Try.results4
theorem Tw.results40 : Go.Proofs.Try.f40.results = #[] := Go.Proofs.Try.results40
theorem Tw.results41 : Go.Proofs.Try.f41.results = #[] := Go.Proofs.Try.results41
theorem Tw.results42 : Go.Proofs.Try.f42.results = #[] := Go.Proofs.Try.results42
theorem Tw.results43 : Go.Proofs.Try.f43.results = #[] := Go.Proofs.Try.results43
theorem Tw.results44 : Go.Proofs.Try.f44.results = #[] := Go.Proofs.Try.results44
theorem Tw.results45 : Go.Proofs.Try.f45.results = #[] := Go.Proofs.Try.results45
theorem Tw.results46 : Go.Proofs.Try.f46.results = #[] := Go.Proofs.Try.results46
theorem Tw.results47 : Go.Proofs.Try.f47.results = #[] := Go.Proofs.Try.results47
theorem Tw.results48 : Go.Proofs.Try.f48.results = #[] := Go.Proofs.Try.results48
theorem Tw.results49 : Go.Proofs.Try.f49.results = #[] := Go.Proofs.Try.results49
theorem Tw.results5 : Go.Proofs.Try.f5.results = #[Go.ResultVar.tmp 6] := Go.Proofs.Try.results5
theorem Tw.results6 : Go.Proofs.Try.f6.results = #[Go.ResultVar.tmp 2] := Go.Proofs.Try.results6
theorem Tw.results7 : Go.Proofs.Try.f7.results = #[Go.ResultVar.tmp 2, Go.ResultVar.tmp 3] := Go.Proofs.Try.results7
theorem Tw.results8 : Go.Proofs.Try.f8.results = #[Go.ResultVar.tmp 4, Go.ResultVar.tmp 5] := Go.Proofs.Try.results8
theorem Tw.results9 : Go.Proofs.Try.f9.results = #[Go.ResultVar.tmp 6, Go.ResultVar.tmp 7] := Go.Proofs.Try.results9
@[simp] theorem Tw.rt_eq : Tw.prog.rt = { boundsError := 8, errorString := 10, plainError := 11, errorAddressString := 14, typeAssertionError := 15, panicNilError := 16, unhashableTypeError := 19, string := 9, any := 20, int := 3, bool := 4, rune := 21, byte := 5 } := by kernel_rfl
@[simp] theorem Tw.runUnderlying0 : ∀ (w : Go.World), Go.Sem.run Tw.prog (Go.underlying 0) w = Go.Result.ok (Go.TypeDesc.tuple #[]) w := fun w => by kernel_rfl
@[simp] theorem Tw.runUnderlying1 : ∀ (w : Go.World), Go.Sem.run Tw.prog (Go.underlying 1) w = Go.Result.ok (Go.TypeDesc.func #[] #[] Bool.false) w := fun w => by kernel_rfl
@[simp] theorem Tw.runUnderlying10 : ∀ (w : Go.World), Go.Sem.run Tw.prog (Go.underlying 10) w = Go.Result.ok Go.TypeDesc.string w := fun w => by kernel_rfl
@[simp] theorem Tw.runUnderlying11 : ∀ (w : Go.World), Go.Sem.run Tw.prog (Go.underlying 11) w = Go.Result.ok Go.TypeDesc.string w := fun w => by kernel_rfl
@[simp] theorem Tw.runUnderlying12 : ∀ (w : Go.World), Go.Sem.run Tw.prog (Go.underlying 12) w = Go.Result.ok (Go.TypeDesc.int Go.IntKind.u64) w := fun w => by kernel_rfl
@[simp] theorem Tw.runUnderlying13 : ∀ (w : Go.World), Go.Sem.run Tw.prog (Go.underlying 13) w = Go.Result.ok (Go.TypeDesc.struct #[{ name := "msg", type := 9, offset := 0, embedded := Bool.false, tag := "", pkgPath := "runtime", byteOffset := 0 }, { name := "addr", type := 12, offset := 1, embedded := Bool.false, tag := "", pkgPath := "runtime", byteOffset := 16 }]) w := fun w => by kernel_rfl
@[simp] theorem Tw.runUnderlying14 : ∀ (w : Go.World), Go.Sem.run Tw.prog (Go.underlying 14) w = Go.Result.ok (Go.TypeDesc.struct #[{ name := "msg", type := 9, offset := 0, embedded := Bool.false, tag := "", pkgPath := "runtime", byteOffset := 0 }, { name := "addr", type := 12, offset := 1, embedded := Bool.false, tag := "", pkgPath := "runtime", byteOffset := 16 }]) w := fun w => by kernel_rfl
@[simp] theorem Tw.runUnderlying15 : ∀ (w : Go.World), Go.Sem.run Tw.prog (Go.underlying 15) w = Go.Result.ok (Go.TypeDesc.pointer 64) w := fun w => by kernel_rfl
@[simp] theorem Tw.runUnderlying16 : ∀ (w : Go.World), Go.Sem.run Tw.prog (Go.underlying 16) w = Go.Result.ok (Go.TypeDesc.pointer 67) w := fun w => by kernel_rfl
@[simp] theorem Tw.runUnderlying17 : ∀ (w : Go.World), Go.Sem.run Tw.prog (Go.underlying 17) w = Go.Result.ok (Go.TypeDesc.pointer 76) w := fun w => by kernel_rfl
@[simp] theorem Tw.runUnderlying18 : ∀ (w : Go.World), Go.Sem.run Tw.prog (Go.underlying 18) w = Go.Result.ok (Go.TypeDesc.struct #[{ name := "typ", type := 17, offset := 0, embedded := Bool.false, tag := "", pkgPath := "internal/runtime/maps", byteOffset := 0 }]) w := fun w => by kernel_rfl
@[simp] theorem Tw.runUnderlying19 : ∀ (w : Go.World), Go.Sem.run Tw.prog (Go.underlying 19) w = Go.Result.ok (Go.TypeDesc.struct #[{ name := "typ", type := 17, offset := 0, embedded := Bool.false, tag := "", pkgPath := "internal/runtime/maps", byteOffset := 0 }]) w := fun w => by kernel_rfl
@[simp] theorem Tw.runUnderlying2 : ∀ (w : Go.World), Go.Sem.run Tw.prog (Go.underlying 2) w = Go.Result.ok (Go.TypeDesc.int Go.IntKind.i64) w := fun w => by kernel_rfl
@[simp] theorem Tw.runUnderlying20 : ∀ (w : Go.World), Go.Sem.run Tw.prog (Go.underlying 20) w = Go.Result.ok (Go.TypeDesc.interface #[]) w := fun w => by kernel_rfl
@[simp] theorem Tw.runUnderlying21 : ∀ (w : Go.World), Go.Sem.run Tw.prog (Go.underlying 21) w = Go.Result.ok (Go.TypeDesc.int Go.IntKind.i32) w := fun w => by kernel_rfl
@[simp] theorem Tw.runUnderlying22 : ∀ (w : Go.World), Go.Sem.run Tw.prog (Go.underlying 22) w = Go.Result.ok (Go.TypeDesc.slice 5) w := fun w => by kernel_rfl
@[simp] theorem Tw.runUnderlying23 : ∀ (w : Go.World), Go.Sem.run Tw.prog (Go.underlying 23) w = Go.Result.ok (Go.TypeDesc.func #[22] #[4] Bool.false) w := fun w => by kernel_rfl
@[simp] theorem Tw.runUnderlying24 : ∀ (w : Go.World), Go.Sem.run Tw.prog (Go.underlying 24) w = Go.Result.ok (Go.TypeDesc.tuple #[3, 9]) w := fun w => by kernel_rfl
@[simp] theorem Tw.runUnderlying25 : ∀ (w : Go.World), Go.Sem.run Tw.prog (Go.underlying 25) w = Go.Result.ok (Go.TypeDesc.func #[22] #[3, 9] Bool.false) w := fun w => by kernel_rfl
@[simp] theorem Tw.runUnderlying26 : ∀ (w : Go.World), Go.Sem.run Tw.prog (Go.underlying 26) w = Go.Result.ok (Go.TypeDesc.slice 9) w := fun w => by kernel_rfl
@[simp] theorem Tw.runUnderlying27 : ∀ (w : Go.World), Go.Sem.run Tw.prog (Go.underlying 27) w = Go.Result.ok (Go.TypeDesc.tuple #[26, 4]) w := fun w => by kernel_rfl
@[simp] theorem Tw.runUnderlying28 : ∀ (w : Go.World), Go.Sem.run Tw.prog (Go.underlying 28) w = Go.Result.ok (Go.TypeDesc.func #[3, 9] #[26, 4] Bool.false) w := fun w => by kernel_rfl
@[simp] theorem Tw.runUnderlying29 : ∀ (w : Go.World), Go.Sem.run Tw.prog (Go.underlying 29) w = Go.Result.ok (Go.TypeDesc.tuple #[9, 4]) w := fun w => by kernel_rfl
@[simp] theorem Tw.runUnderlying3 : ∀ (w : Go.World), Go.Sem.run Tw.prog (Go.underlying 3) w = Go.Result.ok (Go.TypeDesc.int Go.IntKind.i64) w := fun w => by kernel_rfl
@[simp] theorem Tw.runUnderlying30 : ∀ (w : Go.World), Go.Sem.run Tw.prog (Go.underlying 30) w = Go.Result.ok (Go.TypeDesc.func #[3, 26, 3] #[9, 4] Bool.false) w := fun w => by kernel_rfl
@[simp] theorem Tw.runUnderlying31 : ∀ (w : Go.World), Go.Sem.run Tw.prog (Go.underlying 31) w = Go.Result.ok (Go.TypeDesc.slice 3) w := fun w => by kernel_rfl
@[simp] theorem Tw.runUnderlying32 : ∀ (w : Go.World), Go.Sem.run Tw.prog (Go.underlying 32) w = Go.Result.ok (Go.TypeDesc.func #[22] #[31] Bool.false) w := fun w => by kernel_rfl
@[simp] theorem Tw.runUnderlying33 : ∀ (w : Go.World), Go.Sem.run Tw.prog (Go.underlying 33) w = Go.Result.ok (Go.TypeDesc.func #[26, 26] #[4] Bool.false) w := fun w => by kernel_rfl
@[simp] theorem Tw.runUnderlying34 : ∀ (w : Go.World), Go.Sem.run Tw.prog (Go.underlying 34) w = Go.Result.ok (Go.TypeDesc.func #[26, 3] #[3] Bool.false) w := fun w => by kernel_rfl
@[simp] theorem Tw.runUnderlying35 : ∀ (w : Go.World), Go.Sem.run Tw.prog (Go.underlying 35) w = Go.Result.ok (Go.TypeDesc.func #[3, 9] #[4] Bool.false) w := fun w => by kernel_rfl
@[simp] theorem Tw.runUnderlying36 : ∀ (w : Go.World), Go.Sem.run Tw.prog (Go.underlying 36) w = Go.Result.ok (Go.TypeDesc.func #[26] #[26] Bool.false) w := fun w => by kernel_rfl
@[simp] theorem Tw.runUnderlying37 : ∀ (w : Go.World), Go.Sem.run Tw.prog (Go.underlying 37) w = Go.Result.ok (Go.TypeDesc.func #[3, 26, 3] #[4] Bool.false) w := fun w => by kernel_rfl
@[simp] theorem Tw.runUnderlying38 : ∀ (w : Go.World), Go.Sem.run Tw.prog (Go.underlying 38) w = Go.Result.ok (Go.TypeDesc.pointer 56) w := fun w => by kernel_rfl
@[simp] theorem Tw.runUnderlying39 : ∀ (w : Go.World), Go.Sem.run Tw.prog (Go.underlying 39) w = Go.Result.ok (Go.TypeDesc.func #[22] #[38] Bool.false) w := fun w => by kernel_rfl
@[simp] theorem Tw.runUnderlying4 : ∀ (w : Go.World), Go.Sem.run Tw.prog (Go.underlying 4) w = Go.Result.ok Go.TypeDesc.bool w := fun w => by kernel_rfl
@[simp] theorem Tw.runUnderlying40 : ∀ (w : Go.World), Go.Sem.run Tw.prog (Go.underlying 40) w = Go.Result.ok (Go.TypeDesc.func #[38, 3] #[3] Bool.false) w := fun w => by kernel_rfl
@[simp] theorem Tw.runUnderlying41 : ∀ (w : Go.World), Go.Sem.run Tw.prog (Go.underlying 41) w = Go.Result.ok (Go.TypeDesc.func #[38, 3] #[9] Bool.false) w := fun w => by kernel_rfl
@[simp] theorem Tw.runUnderlying42 : ∀ (w : Go.World), Go.Sem.run Tw.prog (Go.underlying 42) w = Go.Result.ok (Go.TypeDesc.func #[3] #[3] Bool.false) w := fun w => by kernel_rfl
@[simp] theorem Tw.runUnderlying43 : ∀ (w : Go.World), Go.Sem.run Tw.prog (Go.underlying 43) w = Go.Result.ok (Go.TypeDesc.tuple #[3, 3, 4]) w := fun w => by kernel_rfl
@[simp] theorem Tw.runUnderlying44 : ∀ (w : Go.World), Go.Sem.run Tw.prog (Go.underlying 44) w = Go.Result.ok (Go.TypeDesc.func #[3] #[3, 3, 4] Bool.false) w := fun w => by kernel_rfl
@[simp] theorem Tw.runUnderlying45 : ∀ (w : Go.World), Go.Sem.run Tw.prog (Go.underlying 45) w = Go.Result.ok (Go.TypeDesc.chan Go.ChanDir.recv 48) w := fun w => by kernel_rfl
@[simp] theorem Tw.runUnderlying46 : ∀ (w : Go.World), Go.Sem.run Tw.prog (Go.underlying 46) w = Go.Result.ok (Go.TypeDesc.func #[3, 3] #[45] Bool.false) w := fun w => by kernel_rfl
@[simp] theorem Tw.runUnderlying47 : ∀ (w : Go.World), Go.Sem.run Tw.prog (Go.underlying 47) w = Go.Result.ok (Go.TypeDesc.struct #[{ name := "from", type := 3, offset := 0, embedded := Bool.false, tag := "", pkgPath := "loop.example/g00197/impl", byteOffset := 0 }, { name := "behind", type := 3, offset := 1, embedded := Bool.false, tag := "", pkgPath := "loop.example/g00197/impl", byteOffset := 8 }, { name := "unit", type := 3, offset := 2, embedded := Bool.false, tag := "", pkgPath := "loop.example/g00197/impl", byteOffset := 16 }, { name := "at", type := 3, offset := 3, embedded := Bool.false, tag := "", pkgPath := "loop.example/g00197/impl", byteOffset := 24 }]) w := fun w => by kernel_rfl
@[simp] theorem Tw.runUnderlying48 : ∀ (w : Go.World), Go.Sem.run Tw.prog (Go.underlying 48) w = Go.Result.ok (Go.TypeDesc.struct #[{ name := "from", type := 3, offset := 0, embedded := Bool.false, tag := "", pkgPath := "loop.example/g00197/impl", byteOffset := 0 }, { name := "behind", type := 3, offset := 1, embedded := Bool.false, tag := "", pkgPath := "loop.example/g00197/impl", byteOffset := 8 }, { name := "unit", type := 3, offset := 2, embedded := Bool.false, tag := "", pkgPath := "loop.example/g00197/impl", byteOffset := 16 }, { name := "at", type := 3, offset := 3, embedded := Bool.false, tag := "", pkgPath := "loop.example/g00197/impl", byteOffset := 24 }]) w := fun w => by kernel_rfl
@[simp] theorem Tw.runUnderlying49 : ∀ (w : Go.World), Go.Sem.run Tw.prog (Go.underlying 49) w = Go.Result.ok (Go.TypeDesc.func #[9] #[9] Bool.false) w := fun w => by kernel_rfl
@[simp] theorem Tw.runUnderlying5 : ∀ (w : Go.World), Go.Sem.run Tw.prog (Go.underlying 5) w = Go.Result.ok (Go.TypeDesc.int Go.IntKind.u8) w := fun w => by kernel_rfl
@[simp] theorem Tw.runUnderlying50 : ∀ (w : Go.World), Go.Sem.run Tw.prog (Go.underlying 50) w = Go.Result.ok (Go.TypeDesc.func #[38] #[3] Bool.false) w := fun w => by kernel_rfl
@[simp] theorem Tw.runUnderlying51 : ∀ (w : Go.World), Go.Sem.run Tw.prog (Go.underlying 51) w = Go.Result.ok (Go.TypeDesc.tuple #[3, 3, 3]) w := fun w => by kernel_rfl
@[simp] theorem Tw.runUnderlying52 : ∀ (w : Go.World), Go.Sem.run Tw.prog (Go.underlying 52) w = Go.Result.ok (Go.TypeDesc.func #[3, 3] #[3, 3, 3] Bool.false) w := fun w => by kernel_rfl
@[simp] theorem Tw.runUnderlying53 : ∀ (w : Go.World), Go.Sem.run Tw.prog (Go.underlying 53) w = Go.Result.ok (Go.TypeDesc.func #[3] #[9] Bool.false) w := fun w => by kernel_rfl
@[simp] theorem Tw.runUnderlying54 : ∀ (w : Go.World), Go.Sem.run Tw.prog (Go.underlying 54) w = Go.Result.ok (Go.TypeDesc.func #[3, 3, 3] #[4] Bool.false) w := fun w => by kernel_rfl
@[simp] theorem Tw.runUnderlying55 : ∀ (w : Go.World), Go.Sem.run Tw.prog (Go.underlying 55) w = Go.Result.ok (Go.TypeDesc.struct #[{ name := "b", type := 22, offset := 0, embedded := Bool.false, tag := "", pkgPath := "loop.example/g00197/spec", byteOffset := 0 }, { name := "i", type := 3, offset := 1, embedded := Bool.false, tag := "", pkgPath := "loop.example/g00197/spec", byteOffset := 24 }, { name := "h", type := 3, offset := 2, embedded := Bool.false, tag := "", pkgPath := "loop.example/g00197/spec", byteOffset := 32 }]) w := fun w => by kernel_rfl
@[simp] theorem Tw.runUnderlying56 : ∀ (w : Go.World), Go.Sem.run Tw.prog (Go.underlying 56) w = Go.Result.ok (Go.TypeDesc.struct #[{ name := "b", type := 22, offset := 0, embedded := Bool.false, tag := "", pkgPath := "loop.example/g00197/spec", byteOffset := 0 }, { name := "i", type := 3, offset := 1, embedded := Bool.false, tag := "", pkgPath := "loop.example/g00197/spec", byteOffset := 24 }, { name := "h", type := 3, offset := 2, embedded := Bool.false, tag := "", pkgPath := "loop.example/g00197/spec", byteOffset := 32 }]) w := fun w => by kernel_rfl
@[simp] theorem Tw.runUnderlying57 : ∀ (w : Go.World), Go.Sem.run Tw.prog (Go.underlying 57) w = Go.Result.ok (Go.TypeDesc.chan Go.ChanDir.both 48) w := fun w => by kernel_rfl
@[simp] theorem Tw.runUnderlying58 : ∀ (w : Go.World), Go.Sem.run Tw.prog (Go.underlying 58) w = Go.Result.ok (Go.TypeDesc.func #[3, 3, 60] #[] Bool.false) w := fun w => by kernel_rfl
@[simp] theorem Tw.runUnderlying59 : ∀ (w : Go.World), Go.Sem.run Tw.prog (Go.underlying 59) w = Go.Result.ok (Go.TypeDesc.int Go.IntKind.u64) w := fun w => by kernel_rfl
@[simp] theorem Tw.runUnderlying6 : ∀ (w : Go.World), Go.Sem.run Tw.prog (Go.underlying 6) w = Go.Result.ok (Go.TypeDesc.int Go.IntKind.u8) w := fun w => by kernel_rfl
@[simp] theorem Tw.runUnderlying60 : ∀ (w : Go.World), Go.Sem.run Tw.prog (Go.underlying 60) w = Go.Result.ok (Go.TypeDesc.chan Go.ChanDir.send 48) w := fun w => by kernel_rfl
@[simp] theorem Tw.runUnderlying61 : ∀ (w : Go.World), Go.Sem.run Tw.prog (Go.underlying 61) w = Go.Result.ok (Go.TypeDesc.pointer 5) w := fun w => by kernel_rfl
@[simp] theorem Tw.runUnderlying62 : ∀ (w : Go.World), Go.Sem.run Tw.prog (Go.underlying 62) w = Go.Result.ok (Go.TypeDesc.func #[] #[9] Bool.false) w := fun w => by kernel_rfl
@[simp] theorem Tw.runUnderlying63 : ∀ (w : Go.World), Go.Sem.run Tw.prog (Go.underlying 63) w = Go.Result.ok (Go.TypeDesc.struct #[{ name := "_interface", type := 17, offset := 0, embedded := Bool.false, tag := "", pkgPath := "runtime", byteOffset := 0 }, { name := "concrete", type := 17, offset := 1, embedded := Bool.false, tag := "", pkgPath := "runtime", byteOffset := 8 }, { name := "asserted", type := 17, offset := 2, embedded := Bool.false, tag := "", pkgPath := "runtime", byteOffset := 16 }, { name := "missingMethod", type := 9, offset := 3, embedded := Bool.false, tag := "", pkgPath := "runtime", byteOffset := 24 }]) w := fun w => by kernel_rfl
@[simp] theorem Tw.runUnderlying64 : ∀ (w : Go.World), Go.Sem.run Tw.prog (Go.underlying 64) w = Go.Result.ok (Go.TypeDesc.struct #[{ name := "_interface", type := 17, offset := 0, embedded := Bool.false, tag := "", pkgPath := "runtime", byteOffset := 0 }, { name := "concrete", type := 17, offset := 1, embedded := Bool.false, tag := "", pkgPath := "runtime", byteOffset := 8 }, { name := "asserted", type := 17, offset := 2, embedded := Bool.false, tag := "", pkgPath := "runtime", byteOffset := 16 }, { name := "missingMethod", type := 9, offset := 3, embedded := Bool.false, tag := "", pkgPath := "runtime", byteOffset := 24 }]) w := fun w => by kernel_rfl
@[simp] theorem Tw.runUnderlying65 : ∀ (w : Go.World), Go.Sem.run Tw.prog (Go.underlying 65) w = Go.Result.ok (Go.TypeDesc.array 0 16) w := fun w => by kernel_rfl
@[simp] theorem Tw.runUnderlying66 : ∀ (w : Go.World), Go.Sem.run Tw.prog (Go.underlying 66) w = Go.Result.ok (Go.TypeDesc.struct #[{ name := "_", type := 65, offset := 0, embedded := Bool.false, tag := "", pkgPath := "runtime", byteOffset := 0 }]) w := fun w => by kernel_rfl
@[simp] theorem Tw.runUnderlying67 : ∀ (w : Go.World), Go.Sem.run Tw.prog (Go.underlying 67) w = Go.Result.ok (Go.TypeDesc.struct #[{ name := "_", type := 65, offset := 0, embedded := Bool.false, tag := "", pkgPath := "runtime", byteOffset := 0 }]) w := fun w => by kernel_rfl
@[simp] theorem Tw.runUnderlying68 : ∀ (w : Go.World), Go.Sem.run Tw.prog (Go.underlying 68) w = Go.Result.ok (Go.TypeDesc.func #[] #[3] Bool.false) w := fun w => by kernel_rfl
@[simp] theorem Tw.runUnderlying69 : ∀ (w : Go.World), Go.Sem.run Tw.prog (Go.underlying 69) w = Go.Result.ok (Go.TypeDesc.int Go.IntKind.u32) w := fun w => by kernel_rfl
@[simp] theorem Tw.runUnderlying7 : ∀ (w : Go.World), Go.Sem.run Tw.prog (Go.underlying 7) w = Go.Result.ok (Go.TypeDesc.struct #[{ name := "x", type := 2, offset := 0, embedded := Bool.false, tag := "", pkgPath := "runtime", byteOffset := 0 }, { name := "y", type := 3, offset := 1, embedded := Bool.false, tag := "", pkgPath := "runtime", byteOffset := 8 }, { name := "signed", type := 4, offset := 2, embedded := Bool.false, tag := "", pkgPath := "runtime", byteOffset := 16 }, { name := "code", type := 6, offset := 3, embedded := Bool.false, tag := "", pkgPath := "runtime", byteOffset := 17 }]) w := fun w => by kernel_rfl
@[simp] theorem Tw.runUnderlying70 : ∀ (w : Go.World), Go.Sem.run Tw.prog (Go.underlying 70) w = Go.Result.ok (Go.TypeDesc.int Go.IntKind.u8) w := fun w => by kernel_rfl
@[simp] theorem Tw.runUnderlying71 : ∀ (w : Go.World), Go.Sem.run Tw.prog (Go.underlying 71) w = Go.Result.ok (Go.TypeDesc.int Go.IntKind.u8) w := fun w => by kernel_rfl
@[simp] theorem Tw.runUnderlying72 : ∀ (w : Go.World), Go.Sem.run Tw.prog (Go.underlying 72) w = Go.Result.ok (Go.TypeDesc.func #[77, 77] #[4] Bool.false) w := fun w => by kernel_rfl
@[simp] theorem Tw.runUnderlying73 : ∀ (w : Go.World), Go.Sem.run Tw.prog (Go.underlying 73) w = Go.Result.ok (Go.TypeDesc.int Go.IntKind.i32) w := fun w => by kernel_rfl
@[simp] theorem Tw.runUnderlying74 : ∀ (w : Go.World), Go.Sem.run Tw.prog (Go.underlying 74) w = Go.Result.ok (Go.TypeDesc.int Go.IntKind.i32) w := fun w => by kernel_rfl
@[simp] theorem Tw.runUnderlying75 : ∀ (w : Go.World), Go.Sem.run Tw.prog (Go.underlying 75) w = Go.Result.ok (Go.TypeDesc.struct #[{ name := "Size_", type := 12, offset := 0, embedded := Bool.false, tag := "", pkgPath := "", byteOffset := 0 }, { name := "PtrBytes", type := 12, offset := 1, embedded := Bool.false, tag := "", pkgPath := "", byteOffset := 8 }, { name := "Hash", type := 69, offset := 2, embedded := Bool.false, tag := "", pkgPath := "", byteOffset := 16 }, { name := "TFlag", type := 70, offset := 3, embedded := Bool.false, tag := "", pkgPath := "", byteOffset := 20 }, { name := "Align_", type := 5, offset := 4, embedded := Bool.false, tag := "", pkgPath := "", byteOffset := 21 }, { name := "FieldAlign_", type := 5, offset := 5, embedded := Bool.false, tag := "", pkgPath := "", byteOffset := 22 }, { name := "Kind_", type := 71, offset := 6, embedded := Bool.false, tag := "", pkgPath := "", byteOffset := 23 }, { name := "Equal", type := 72, offset := 7, embedded := Bool.false, tag := "", pkgPath := "", byteOffset := 24 }, { name := "GCData", type := 61, offset := 8, embedded := Bool.false, tag := "", pkgPath := "", byteOffset := 32 }, { name := "Str", type := 73, offset := 9, embedded := Bool.false, tag := "", pkgPath := "", byteOffset := 40 }, { name := "PtrToThis", type := 74, offset := 10, embedded := Bool.false, tag := "", pkgPath := "", byteOffset := 44 }]) w := fun w => by kernel_rfl
@[simp] theorem Tw.runUnderlying76 : ∀ (w : Go.World), Go.Sem.run Tw.prog (Go.underlying 76) w = Go.Result.ok (Go.TypeDesc.struct #[{ name := "Size_", type := 12, offset := 0, embedded := Bool.false, tag := "", pkgPath := "", byteOffset := 0 }, { name := "PtrBytes", type := 12, offset := 1, embedded := Bool.false, tag := "", pkgPath := "", byteOffset := 8 }, { name := "Hash", type := 69, offset := 2, embedded := Bool.false, tag := "", pkgPath := "", byteOffset := 16 }, { name := "TFlag", type := 70, offset := 3, embedded := Bool.false, tag := "", pkgPath := "", byteOffset := 20 }, { name := "Align_", type := 5, offset := 4, embedded := Bool.false, tag := "", pkgPath := "", byteOffset := 21 }, { name := "FieldAlign_", type := 5, offset := 5, embedded := Bool.false, tag := "", pkgPath := "", byteOffset := 22 }, { name := "Kind_", type := 71, offset := 6, embedded := Bool.false, tag := "", pkgPath := "", byteOffset := 23 }, { name := "Equal", type := 72, offset := 7, embedded := Bool.false, tag := "", pkgPath := "", byteOffset := 24 }, { name := "GCData", type := 61, offset := 8, embedded := Bool.false, tag := "", pkgPath := "", byteOffset := 32 }, { name := "Str", type := 73, offset := 9, embedded := Bool.false, tag := "", pkgPath := "", byteOffset := 40 }, { name := "PtrToThis", type := 74, offset := 10, embedded := Bool.false, tag := "", pkgPath := "", byteOffset := 44 }]) w := fun w => by kernel_rfl
@[simp] theorem Tw.runUnderlying77 : ∀ (w : Go.World), Go.Sem.run Tw.prog (Go.underlying 77) w = Go.Result.ok Go.TypeDesc.unsafePointer w := fun w => by kernel_rfl
@[simp] theorem Tw.runUnderlying8 : ∀ (w : Go.World), Go.Sem.run Tw.prog (Go.underlying 8) w = Go.Result.ok (Go.TypeDesc.struct #[{ name := "x", type := 2, offset := 0, embedded := Bool.false, tag := "", pkgPath := "runtime", byteOffset := 0 }, { name := "y", type := 3, offset := 1, embedded := Bool.false, tag := "", pkgPath := "runtime", byteOffset := 8 }, { name := "signed", type := 4, offset := 2, embedded := Bool.false, tag := "", pkgPath := "runtime", byteOffset := 16 }, { name := "code", type := 6, offset := 3, embedded := Bool.false, tag := "", pkgPath := "runtime", byteOffset := 17 }]) w := fun w => by kernel_rfl
@[simp] theorem Tw.runUnderlying9 : ∀ (w : Go.World), Go.Sem.run Tw.prog (Go.underlying 9) w = Go.Result.ok Go.TypeDesc.string w := fun w => by kernel_rfl
@[simp] theorem Tw.sizeOf0 : ∀ (w : Go.World), Go.Sem.run Tw.prog (Go.sizeOf 0) w = Go.Result.ok 1 w := fun w => by kernel_rfl
@[simp] theorem Tw.sizeOf1 : ∀ (w : Go.World), Go.Sem.run Tw.prog (Go.sizeOf 1) w = Go.Result.ok 1 w := fun w => by kernel_rfl
@[simp] theorem Tw.sizeOf10 : ∀ (w : Go.World), Go.Sem.run Tw.prog (Go.sizeOf 10) w = Go.Result.ok 1 w := fun w => by kernel_rfl
@[simp] theorem Tw.sizeOf11 : ∀ (w : Go.World), Go.Sem.run Tw.prog (Go.sizeOf 11) w = Go.Result.ok 1 w := fun w => by kernel_rfl
@[simp] theorem Tw.sizeOf12 : ∀ (w : Go.World), Go.Sem.run Tw.prog (Go.sizeOf 12) w = Go.Result.ok 1 w := fun w => by kernel_rfl
@[simp] theorem Tw.sizeOf13 : ∀ (w : Go.World), Go.Sem.run Tw.prog (Go.sizeOf 13) w = Go.Result.ok 2 w := fun w => by kernel_rfl
@[simp] theorem Tw.sizeOf14 : ∀ (w : Go.World), Go.Sem.run Tw.prog (Go.sizeOf 14) w = Go.Result.ok 2 w := fun w => by kernel_rfl
@[simp] theorem Tw.sizeOf15 : ∀ (w : Go.World), Go.Sem.run Tw.prog (Go.sizeOf 15) w = Go.Result.ok 1 w := fun w => by kernel_rfl
@[simp] theorem Tw.sizeOf16 : ∀ (w : Go.World), Go.Sem.run Tw.prog (Go.sizeOf 16) w = Go.Result.ok 1 w := fun w => by kernel_rfl
@[simp] theorem Tw.sizeOf17 : ∀ (w : Go.World), Go.Sem.run Tw.prog (Go.sizeOf 17) w = Go.Result.ok 1 w := fun w => by kernel_rfl
@[simp] theorem Tw.sizeOf18 : ∀ (w : Go.World), Go.Sem.run Tw.prog (Go.sizeOf 18) w = Go.Result.ok 1 w := fun w => by kernel_rfl
@[simp] theorem Tw.sizeOf19 : ∀ (w : Go.World), Go.Sem.run Tw.prog (Go.sizeOf 19) w = Go.Result.ok 1 w := fun w => by kernel_rfl
@[simp] theorem Tw.sizeOf2 : ∀ (w : Go.World), Go.Sem.run Tw.prog (Go.sizeOf 2) w = Go.Result.ok 1 w := fun w => by kernel_rfl
@[simp] theorem Tw.sizeOf20 : ∀ (w : Go.World), Go.Sem.run Tw.prog (Go.sizeOf 20) w = Go.Result.ok 1 w := fun w => by kernel_rfl
@[simp] theorem Tw.sizeOf21 : ∀ (w : Go.World), Go.Sem.run Tw.prog (Go.sizeOf 21) w = Go.Result.ok 1 w := fun w => by kernel_rfl
@[simp] theorem Tw.sizeOf22 : ∀ (w : Go.World), Go.Sem.run Tw.prog (Go.sizeOf 22) w = Go.Result.ok 1 w := fun w => by kernel_rfl
@[simp] theorem Tw.sizeOf23 : ∀ (w : Go.World), Go.Sem.run Tw.prog (Go.sizeOf 23) w = Go.Result.ok 1 w := fun w => by kernel_rfl
@[simp] theorem Tw.sizeOf24 : ∀ (w : Go.World), Go.Sem.run Tw.prog (Go.sizeOf 24) w = Go.Result.ok 1 w := fun w => by kernel_rfl
@[simp] theorem Tw.sizeOf25 : ∀ (w : Go.World), Go.Sem.run Tw.prog (Go.sizeOf 25) w = Go.Result.ok 1 w := fun w => by kernel_rfl
@[simp] theorem Tw.sizeOf26 : ∀ (w : Go.World), Go.Sem.run Tw.prog (Go.sizeOf 26) w = Go.Result.ok 1 w := fun w => by kernel_rfl
@[simp] theorem Tw.sizeOf27 : ∀ (w : Go.World), Go.Sem.run Tw.prog (Go.sizeOf 27) w = Go.Result.ok 1 w := fun w => by kernel_rfl
@[simp] theorem Tw.sizeOf28 : ∀ (w : Go.World), Go.Sem.run Tw.prog (Go.sizeOf 28) w = Go.Result.ok 1 w := fun w => by kernel_rfl
@[simp] theorem Tw.sizeOf29 : ∀ (w : Go.World), Go.Sem.run Tw.prog (Go.sizeOf 29) w = Go.Result.ok 1 w := fun w => by kernel_rfl
@[simp] theorem Tw.sizeOf3 : ∀ (w : Go.World), Go.Sem.run Tw.prog (Go.sizeOf 3) w = Go.Result.ok 1 w := fun w => by kernel_rfl
@[simp] theorem Tw.sizeOf30 : ∀ (w : Go.World), Go.Sem.run Tw.prog (Go.sizeOf 30) w = Go.Result.ok 1 w := fun w => by kernel_rfl
@[simp] theorem Tw.sizeOf31 : ∀ (w : Go.World), Go.Sem.run Tw.prog (Go.sizeOf 31) w = Go.Result.ok 1 w := fun w => by kernel_rfl
@[simp] theorem Tw.sizeOf32 : ∀ (w : Go.World), Go.Sem.run Tw.prog (Go.sizeOf 32) w = Go.Result.ok 1 w := fun w => by kernel_rfl
@[simp] theorem Tw.sizeOf33 : ∀ (w : Go.World), Go.Sem.run Tw.prog (Go.sizeOf 33) w = Go.Result.ok 1 w := fun w => by kernel_rfl
@[simp] theorem Tw.sizeOf34 : ∀ (w : Go.World), Go.Sem.run Tw.prog (Go.sizeOf 34) w = Go.Result.ok 1 w := fun w => by kernel_rfl
@[simp] theorem Tw.sizeOf35 : ∀ (w : Go.World), Go.Sem.run Tw.prog (Go.sizeOf 35) w = Go.Result.ok 1 w := fun w => by kernel_rfl
@[simp] theorem Tw.sizeOf36 : ∀ (w : Go.World), Go.Sem.run Tw.prog (Go.sizeOf 36) w = Go.Result.ok 1 w := fun w => by kernel_rfl
@[simp] theorem Tw.sizeOf37 : ∀ (w : Go.World), Go.Sem.run Tw.prog (Go.sizeOf 37) w = Go.Result.ok 1 w := fun w => by kernel_rfl
@[simp] theorem Tw.sizeOf38 : ∀ (w : Go.World), Go.Sem.run Tw.prog (Go.sizeOf 38) w = Go.Result.ok 1 w := fun w => by kernel_rfl
@[simp] theorem Tw.sizeOf39 : ∀ (w : Go.World), Go.Sem.run Tw.prog (Go.sizeOf 39) w = Go.Result.ok 1 w := fun w => by kernel_rfl
@[simp] theorem Tw.sizeOf4 : ∀ (w : Go.World), Go.Sem.run Tw.prog (Go.sizeOf 4) w = Go.Result.ok 1 w := fun w => by kernel_rfl
@[simp] theorem Tw.sizeOf40 : ∀ (w : Go.World), Go.Sem.run Tw.prog (Go.sizeOf 40) w = Go.Result.ok 1 w := fun w => by kernel_rfl
@[simp] theorem Tw.sizeOf41 : ∀ (w : Go.World), Go.Sem.run Tw.prog (Go.sizeOf 41) w = Go.Result.ok 1 w := fun w => by kernel_rfl
@[simp] theorem Tw.sizeOf42 : ∀ (w : Go.World), Go.Sem.run Tw.prog (Go.sizeOf 42) w = Go.Result.ok 1 w := fun w => by kernel_rfl
@[simp] theorem Tw.sizeOf43 : ∀ (w : Go.World), Go.Sem.run Tw.prog (Go.sizeOf 43) w = Go.Result.ok 1 w := fun w => by kernel_rfl
@[simp] theorem Tw.sizeOf44 : ∀ (w : Go.World), Go.Sem.run Tw.prog (Go.sizeOf 44) w = Go.Result.ok 1 w := fun w => by kernel_rfl
@[simp] theorem Tw.sizeOf45 : ∀ (w : Go.World), Go.Sem.run Tw.prog (Go.sizeOf 45) w = Go.Result.ok 1 w := fun w => by kernel_rfl
@[simp] theorem Tw.sizeOf46 : ∀ (w : Go.World), Go.Sem.run Tw.prog (Go.sizeOf 46) w = Go.Result.ok 1 w := fun w => by kernel_rfl
@[simp] theorem Tw.sizeOf47 : ∀ (w : Go.World), Go.Sem.run Tw.prog (Go.sizeOf 47) w = Go.Result.ok 4 w := fun w => by kernel_rfl
@[simp] theorem Tw.sizeOf48 : ∀ (w : Go.World), Go.Sem.run Tw.prog (Go.sizeOf 48) w = Go.Result.ok 4 w := fun w => by kernel_rfl
@[simp] theorem Tw.sizeOf49 : ∀ (w : Go.World), Go.Sem.run Tw.prog (Go.sizeOf 49) w = Go.Result.ok 1 w := fun w => by kernel_rfl
@[simp] theorem Tw.sizeOf5 : ∀ (w : Go.World), Go.Sem.run Tw.prog (Go.sizeOf 5) w = Go.Result.ok 1 w := fun w => by kernel_rfl
@[simp] theorem Tw.sizeOf50 : ∀ (w : Go.World), Go.Sem.run Tw.prog (Go.sizeOf 50) w = Go.Result.ok 1 w := fun w => by kernel_rfl
@[simp] theorem Tw.sizeOf51 : ∀ (w : Go.World), Go.Sem.run Tw.prog (Go.sizeOf 51) w = Go.Result.ok 1 w := fun w => by kernel_rfl
@[simp] theorem Tw.sizeOf52 : ∀ (w : Go.World), Go.Sem.run Tw.prog (Go.sizeOf 52) w = Go.Result.ok 1 w := fun w => by kernel_rfl
@[simp] theorem Tw.sizeOf53 : ∀ (w : Go.World), Go.Sem.run Tw.prog (Go.sizeOf 53) w = Go.Result.ok 1 w := fun w => by kernel_rfl
@[simp] theorem Tw.sizeOf54 : ∀ (w : Go.World), Go.Sem.run Tw.prog (Go.sizeOf 54) w = Go.Result.ok 1 w := fun w => by kernel_rfl
@[simp] theorem Tw.sizeOf55 : ∀ (w : Go.World), Go.Sem.run Tw.prog (Go.sizeOf 55) w = Go.Result.ok 3 w := fun w => by kernel_rfl
@[simp] theorem Tw.sizeOf56 : ∀ (w : Go.World), Go.Sem.run Tw.prog (Go.sizeOf 56) w = Go.Result.ok 3 w := fun w => by kernel_rfl
@[simp] theorem Tw.sizeOf57 : ∀ (w : Go.World), Go.Sem.run Tw.prog (Go.sizeOf 57) w = Go.Result.ok 1 w := fun w => by kernel_rfl
@[simp] theorem Tw.sizeOf58 : ∀ (w : Go.World), Go.Sem.run Tw.prog (Go.sizeOf 58) w = Go.Result.ok 1 w := fun w => by kernel_rfl
@[simp] theorem Tw.sizeOf59 : ∀ (w : Go.World), Go.Sem.run Tw.prog (Go.sizeOf 59) w = Go.Result.ok 1 w := fun w => by kernel_rfl
@[simp] theorem Tw.sizeOf6 : ∀ (w : Go.World), Go.Sem.run Tw.prog (Go.sizeOf 6) w = Go.Result.ok 1 w := fun w => by kernel_rfl
@[simp] theorem Tw.sizeOf60 : ∀ (w : Go.World), Go.Sem.run Tw.prog (Go.sizeOf 60) w = Go.Result.ok 1 w := fun w => by kernel_rfl
@[simp] theorem Tw.sizeOf61 : ∀ (w : Go.World), Go.Sem.run Tw.prog (Go.sizeOf 61) w = Go.Result.ok 1 w := fun w => by kernel_rfl
@[simp] theorem Tw.sizeOf62 : ∀ (w : Go.World), Go.Sem.run Tw.prog (Go.sizeOf 62) w = Go.Result.ok 1 w := fun w => by kernel_rfl
@[simp] theorem Tw.sizeOf63 : ∀ (w : Go.World), Go.Sem.run Tw.prog (Go.sizeOf 63) w = Go.Result.ok 4 w := fun w => by kernel_rfl
@[simp] theorem Tw.sizeOf64 : ∀ (w : Go.World), Go.Sem.run Tw.prog (Go.sizeOf 64) w = Go.Result.ok 4 w := fun w => by kernel_rfl
@[simp] theorem Tw.sizeOf65 : ∀ (w : Go.World), Go.Sem.run Tw.prog (Go.sizeOf 65) w = Go.Result.ok 0 w := fun w => by kernel_rfl
@[simp] theorem Tw.sizeOf66 : ∀ (w : Go.World), Go.Sem.run Tw.prog (Go.sizeOf 66) w = Go.Result.ok 0 w := fun w => by kernel_rfl
@[simp] theorem Tw.sizeOf67 : ∀ (w : Go.World), Go.Sem.run Tw.prog (Go.sizeOf 67) w = Go.Result.ok 0 w := fun w => by kernel_rfl
@[simp] theorem Tw.sizeOf68 : ∀ (w : Go.World), Go.Sem.run Tw.prog (Go.sizeOf 68) w = Go.Result.ok 1 w := fun w => by kernel_rfl
@[simp] theorem Tw.sizeOf69 : ∀ (w : Go.World), Go.Sem.run Tw.prog (Go.sizeOf 69) w = Go.Result.ok 1 w := fun w => by kernel_rfl
@[simp] theorem Tw.sizeOf7 : ∀ (w : Go.World), Go.Sem.run Tw.prog (Go.sizeOf 7) w = Go.Result.ok 4 w := fun w => by kernel_rfl
@[simp] theorem Tw.sizeOf70 : ∀ (w : Go.World), Go.Sem.run Tw.prog (Go.sizeOf 70) w = Go.Result.ok 1 w := fun w => by kernel_rfl
@[simp] theorem Tw.sizeOf71 : ∀ (w : Go.World), Go.Sem.run Tw.prog (Go.sizeOf 71) w = Go.Result.ok 1 w := fun w => by kernel_rfl
@[simp] theorem Tw.sizeOf72 : ∀ (w : Go.World), Go.Sem.run Tw.prog (Go.sizeOf 72) w = Go.Result.ok 1 w := fun w => by kernel_rfl
@[simp] theorem Tw.sizeOf73 : ∀ (w : Go.World), Go.Sem.run Tw.prog (Go.sizeOf 73) w = Go.Result.ok 1 w := fun w => by kernel_rfl
@[simp] theorem Tw.sizeOf74 : ∀ (w : Go.World), Go.Sem.run Tw.prog (Go.sizeOf 74) w = Go.Result.ok 1 w := fun w => by kernel_rfl
@[simp] theorem Tw.sizeOf75 : ∀ (w : Go.World), Go.Sem.run Tw.prog (Go.sizeOf 75) w = Go.Result.ok 11 w := fun w => by kernel_rfl
@[simp] theorem Tw.sizeOf76 : ∀ (w : Go.World), Go.Sem.run Tw.prog (Go.sizeOf 76) w = Go.Result.ok 11 w := fun w => by kernel_rfl
@[simp] theorem Tw.sizeOf77 : ∀ (w : Go.World), Go.Sem.run Tw.prog (Go.sizeOf 77) w = Go.Result.ok 1 w := fun w => by kernel_rfl
@[simp] theorem Tw.sizeOf8 : ∀ (w : Go.World), Go.Sem.run Tw.prog (Go.sizeOf 8) w = Go.Result.ok 4 w := fun w => by kernel_rfl
@[simp] theorem Tw.sizeOf9 : ∀ (w : Go.World), Go.Sem.run Tw.prog (Go.sizeOf 9) w = Go.Result.ok 1 w := fun w => by kernel_rfl
@[simp] theorem Tw.stoodInHeld13 : Tw.prog.stoodInHeld 13 = Bool.true := by kernel_rfl
@[simp] theorem Tw.stoodInHeld14 : Tw.prog.stoodInHeld 14 = Bool.true := by kernel_rfl
@[simp] theorem Tw.stoodInHeld18 : Tw.prog.stoodInHeld 18 = Bool.true := by kernel_rfl
@[simp] theorem Tw.stoodInHeld19 : Tw.prog.stoodInHeld 19 = Bool.true := by kernel_rfl
@[simp] theorem Tw.stoodInHeld47 : Tw.prog.stoodInHeld 47 = Bool.false := by kernel_rfl
@[simp] theorem Tw.stoodInHeld48 : Tw.prog.stoodInHeld 48 = Bool.false := by kernel_rfl
@[simp] theorem Tw.stoodInHeld55 : Tw.prog.stoodInHeld 55 = Bool.false := by kernel_rfl
@[simp] theorem Tw.stoodInHeld56 : Tw.prog.stoodInHeld 56 = Bool.false := by kernel_rfl
@[simp] theorem Tw.stoodInHeld63 : Tw.prog.stoodInHeld 63 = Bool.true := by kernel_rfl
@[simp] theorem Tw.stoodInHeld64 : Tw.prog.stoodInHeld 64 = Bool.true := by kernel_rfl
@[simp] theorem Tw.stoodInHeld66 : Tw.prog.stoodInHeld 66 = Bool.true := by kernel_rfl
@[simp] theorem Tw.stoodInHeld67 : Tw.prog.stoodInHeld 67 = Bool.true := by kernel_rfl
@[simp] theorem Tw.stoodInHeld7 : Tw.prog.stoodInHeld 7 = Bool.false := by kernel_rfl
@[simp] theorem Tw.stoodInHeld75 : Tw.prog.stoodInHeld 75 = Bool.true := by kernel_rfl
@[simp] theorem Tw.stoodInHeld76 : Tw.prog.stoodInHeld 76 = Bool.true := by kernel_rfl
@[simp] theorem Tw.stoodInHeld8 : Tw.prog.stoodInHeld 8 = Bool.false := by kernel_rfl
@[simp] theorem Tw.type0 : Tw.prog.types[0]? = Option.some Go.Proofs.Try.t0 := by kernel_rfl
@[simp] theorem Tw.type1 : Tw.prog.types[1]? = Option.some Go.Proofs.Try.t1 := by kernel_rfl
@[simp] theorem Tw.type10 : Tw.prog.types[10]? = Option.some Go.Proofs.Try.t10 := by kernel_rfl
@[simp] theorem Tw.type11 : Tw.prog.types[11]? = Option.some Go.Proofs.Try.t11 := by kernel_rfl
@[simp] theorem Tw.type12 : Tw.prog.types[12]? = Option.some Go.Proofs.Try.t12 := by kernel_rfl
@[simp] theorem Tw.type13 : Tw.prog.types[13]? = Option.some Go.Proofs.Try.t13 := by kernel_rfl
@[simp] theorem Tw.type14 : Tw.prog.types[14]? = Option.some Go.Proofs.Try.t14 := by kernel_rfl
@[simp] theorem Tw.type15 : Tw.prog.types[15]? = Option.some Go.Proofs.Try.t15 := by kernel_rfl
@[simp] theorem Tw.type16 : Tw.prog.types[16]? = Option.some Go.Proofs.Try.t16 := by kernel_rfl
@[simp] theorem Tw.type17 : Tw.prog.types[17]? = Option.some Go.Proofs.Try.t17 := by kernel_rfl
@[simp] theorem Tw.type18 : Tw.prog.types[18]? = Option.some Go.Proofs.Try.t18 := by kernel_rfl
@[simp] theorem Tw.type19 : Tw.prog.types[19]? = Option.some Go.Proofs.Try.t19 := by kernel_rfl
@[simp] theorem Tw.type2 : Tw.prog.types[2]? = Option.some Go.Proofs.Try.t2 := by kernel_rfl
@[simp] theorem Tw.type20 : Tw.prog.types[20]? = Option.some Go.Proofs.Try.t20 := by kernel_rfl
@[simp] theorem Tw.type21 : Tw.prog.types[21]? = Option.some Go.Proofs.Try.t21 := by kernel_rfl
@[simp] theorem Tw.type22 : Tw.prog.types[22]? = Option.some Go.Proofs.Try.t22 := by kernel_rfl
@[simp] theorem Tw.type23 : Tw.prog.types[23]? = Option.some Go.Proofs.Try.t23 := by kernel_rfl
@[simp] theorem Tw.type24 : Tw.prog.types[24]? = Option.some Go.Proofs.Try.t24 := by kernel_rfl
@[simp] theorem Tw.type25 : Tw.prog.types[25]? = Option.some Go.Proofs.Try.t25 := by kernel_rfl
@[simp] theorem Tw.type26 : Tw.prog.types[26]? = Option.some Go.Proofs.Try.t26 := by kernel_rfl
@[simp] theorem Tw.type27 : Tw.prog.types[27]? = Option.some Go.Proofs.Try.t27 := by kernel_rfl
@[simp] theorem Tw.type28 : Tw.prog.types[28]? = Option.some Go.Proofs.Try.t28 := by kernel_rfl
@[simp] theorem Tw.type29 : Tw.prog.types[29]? = Option.some Go.Proofs.Try.t29 := by kernel_rfl
@[simp] theorem Tw.type3 : Tw.prog.types[3]? = Option.some Go.Proofs.Try.t3 := by kernel_rfl
@[simp] theorem Tw.type30 : Tw.prog.types[30]? = Option.some Go.Proofs.Try.t30 := by kernel_rfl
@[simp] theorem Tw.type31 : Tw.prog.types[31]? = Option.some Go.Proofs.Try.t31 := by kernel_rfl
@[simp] theorem Tw.type32 : Tw.prog.types[32]? = Option.some Go.Proofs.Try.t32 := by kernel_rfl
@[simp] theorem Tw.type33 : Tw.prog.types[33]? = Option.some Go.Proofs.Try.t33 := by kernel_rfl
@[simp] theorem Tw.type34 : Tw.prog.types[34]? = Option.some Go.Proofs.Try.t34 := by kernel_rfl
@[simp] theorem Tw.type35 : Tw.prog.types[35]? = Option.some Go.Proofs.Try.t35 := by kernel_rfl
@[simp] theorem Tw.type36 : Tw.prog.types[36]? = Option.some Go.Proofs.Try.t36 := by kernel_rfl
@[simp] theorem Tw.type37 : Tw.prog.types[37]? = Option.some Go.Proofs.Try.t37 := by kernel_rfl
@[simp] theorem Tw.type38 : Tw.prog.types[38]? = Option.some Go.Proofs.Try.t38 := by kernel_rfl
@[simp] theorem Tw.type39 : Tw.prog.types[39]? = Option.some Go.Proofs.Try.t39 := by kernel_rfl
@[simp] theorem Tw.type4 : Tw.prog.types[4]? = Option.some Go.Proofs.Try.t4 := by kernel_rfl
@[simp] theorem Tw.type40 : Tw.prog.types[40]? = Option.some Go.Proofs.Try.t40 := by kernel_rfl
@[simp] theorem Tw.type41 : Tw.prog.types[41]? = Option.some Go.Proofs.Try.t41 := by kernel_rfl
@[simp] theorem Tw.type42 : Tw.prog.types[42]? = Option.some Go.Proofs.Try.t42 := by kernel_rfl
@[simp] theorem Tw.type43 : Tw.prog.types[43]? = Option.some Go.Proofs.Try.t43 := by kernel_rfl
@[simp] theorem Tw.type44 : Tw.prog.types[44]? = Option.some Go.Proofs.Try.t44 := by kernel_rfl
@[simp] theorem Tw.type45 : Tw.prog.types[45]? = Option.some Go.Proofs.Try.t45 := by kernel_rfl
@[simp] theorem Tw.type46 : Tw.prog.types[46]? = Option.some Go.Proofs.Try.t46 := by kernel_rfl
@[simp] theorem Tw.type47 : Tw.prog.types[47]? = Option.some Go.Proofs.Try.t47 := by kernel_rfl
@[simp] theorem Tw.type48 : Tw.prog.types[48]? = Option.some Go.Proofs.Try.t48 := by kernel_rfl
@[simp] theorem Tw.type49 : Tw.prog.types[49]? = Option.some Go.Proofs.Try.t49 := by kernel_rfl
@[simp] theorem Tw.type5 : Tw.prog.types[5]? = Option.some Go.Proofs.Try.t5 := by kernel_rfl
@[simp] theorem Tw.type50 : Tw.prog.types[50]? = Option.some Go.Proofs.Try.t50 := by kernel_rfl
@[simp] theorem Tw.type51 : Tw.prog.types[51]? = Option.some Go.Proofs.Try.t51 := by kernel_rfl
@[simp] theorem Tw.type52 : Tw.prog.types[52]? = Option.some Go.Proofs.Try.t52 := by kernel_rfl
@[simp] theorem Tw.type53 : Tw.prog.types[53]? = Option.some Go.Proofs.Try.t53 := by kernel_rfl
@[simp] theorem Tw.type54 : Tw.prog.types[54]? = Option.some Go.Proofs.Try.t54 := by kernel_rfl
@[simp] theorem Tw.type55 : Tw.prog.types[55]? = Option.some Go.Proofs.Try.t55 := by kernel_rfl
@[simp] theorem Tw.type56 : Tw.prog.types[56]? = Option.some Go.Proofs.Try.t56 := by kernel_rfl
@[simp] theorem Tw.type57 : Tw.prog.types[57]? = Option.some Go.Proofs.Try.t57 := by kernel_rfl
@[simp] theorem Tw.type58 : Tw.prog.types[58]? = Option.some Go.Proofs.Try.t58 := by kernel_rfl
@[simp] theorem Tw.type59 : Tw.prog.types[59]? = Option.some Go.Proofs.Try.t59 := by kernel_rfl
@[simp] theorem Tw.type6 : Tw.prog.types[6]? = Option.some Go.Proofs.Try.t6 := by kernel_rfl
@[simp] theorem Tw.type60 : Tw.prog.types[60]? = Option.some Go.Proofs.Try.t60 := by kernel_rfl
@[simp] theorem Tw.type61 : Tw.prog.types[61]? = Option.some Go.Proofs.Try.t61 := by kernel_rfl
@[simp] theorem Tw.type62 : Tw.prog.types[62]? = Option.some Go.Proofs.Try.t62 := by kernel_rfl
@[simp] theorem Tw.type63 : Tw.prog.types[63]? = Option.some Go.Proofs.Try.t63 := by kernel_rfl
@[simp] theorem Tw.type64 : Tw.prog.types[64]? = Option.some Go.Proofs.Try.t64 := by kernel_rfl
@[simp] theorem Tw.type65 : Tw.prog.types[65]? = Option.some Go.Proofs.Try.t65 := by kernel_rfl
@[simp] theorem Tw.type66 : Tw.prog.types[66]? = Option.some Go.Proofs.Try.t66 := by kernel_rfl
@[simp] theorem Tw.type67 : Tw.prog.types[67]? = Option.some Go.Proofs.Try.t67 := by kernel_rfl
@[simp] theorem Tw.type68 : Tw.prog.types[68]? = Option.some Go.Proofs.Try.t68 := by kernel_rfl
@[simp] theorem Tw.type69 : Tw.prog.types[69]? = Option.some Go.Proofs.Try.t69 := by kernel_rfl
@[simp] theorem Tw.type7 : Tw.prog.types[7]? = Option.some Go.Proofs.Try.t7 := by kernel_rfl
@[simp] theorem Tw.type70 : Tw.prog.types[70]? = Option.some Go.Proofs.Try.t70 := by kernel_rfl
@[simp] theorem Tw.type71 : Tw.prog.types[71]? = Option.some Go.Proofs.Try.t71 := by kernel_rfl
@[simp] theorem Tw.type72 : Tw.prog.types[72]? = Option.some Go.Proofs.Try.t72 := by kernel_rfl
@[simp] theorem Tw.type73 : Tw.prog.types[73]? = Option.some Go.Proofs.Try.t73 := by kernel_rfl
@[simp] theorem Tw.type74 : Tw.prog.types[74]? = Option.some Go.Proofs.Try.t74 := by kernel_rfl
@[simp] theorem Tw.type75 : Tw.prog.types[75]? = Option.some Go.Proofs.Try.t75 := by kernel_rfl
@[simp] theorem Tw.type76 : Tw.prog.types[76]? = Option.some Go.Proofs.Try.t76 := by kernel_rfl
@[simp] theorem Tw.type77 : Tw.prog.types[77]? = Option.some Go.Proofs.Try.t77 := by kernel_rfl
@[simp] theorem Tw.type8 : Tw.prog.types[8]? = Option.some Go.Proofs.Try.t8 := by kernel_rfl
@[simp] theorem Tw.type9 : Tw.prog.types[9]? = Option.some Go.Proofs.Try.t9 := by kernel_rfl
@[simp] theorem Tw.typeInfo0 : ∀ (w : Go.World), Go.Sem.run Tw.prog (Go.typeInfo 0) w = Go.Result.ok Go.Proofs.Try.t0 w := fun w => by kernel_rfl
@[simp] theorem Tw.typeInfo1 : ∀ (w : Go.World), Go.Sem.run Tw.prog (Go.typeInfo 1) w = Go.Result.ok Go.Proofs.Try.t1 w := fun w => by kernel_rfl
@[simp] theorem Tw.typeInfo10 : ∀ (w : Go.World), Go.Sem.run Tw.prog (Go.typeInfo 10) w = Go.Result.ok Go.Proofs.Try.t10 w := fun w => by kernel_rfl
@[simp] theorem Tw.typeInfo11 : ∀ (w : Go.World), Go.Sem.run Tw.prog (Go.typeInfo 11) w = Go.Result.ok Go.Proofs.Try.t11 w := fun w => by kernel_rfl
@[simp] theorem Tw.typeInfo12 : ∀ (w : Go.World), Go.Sem.run Tw.prog (Go.typeInfo 12) w = Go.Result.ok Go.Proofs.Try.t12 w := fun w => by kernel_rfl
@[simp] theorem Tw.typeInfo13 : ∀ (w : Go.World), Go.Sem.run Tw.prog (Go.typeInfo 13) w = Go.Result.ok Go.Proofs.Try.t13 w := fun w => by kernel_rfl
@[simp] theorem Tw.typeInfo14 : ∀ (w : Go.World), Go.Sem.run Tw.prog (Go.typeInfo 14) w = Go.Result.ok Go.Proofs.Try.t14 w := fun w => by kernel_rfl
@[simp] theorem Tw.typeInfo15 : ∀ (w : Go.World), Go.Sem.run Tw.prog (Go.typeInfo 15) w = Go.Result.ok Go.Proofs.Try.t15 w := fun w => by kernel_rfl
@[simp] theorem Tw.typeInfo16 : ∀ (w : Go.World), Go.Sem.run Tw.prog (Go.typeInfo 16) w = Go.Result.ok Go.Proofs.Try.t16 w := fun w => by kernel_rfl
@[simp] theorem Tw.typeInfo17 : ∀ (w : Go.World), Go.Sem.run Tw.prog (Go.typeInfo 17) w = Go.Result.ok Go.Proofs.Try.t17 w := fun w => by kernel_rfl
@[simp] theorem Tw.typeInfo18 : ∀ (w : Go.World), Go.Sem.run Tw.prog (Go.typeInfo 18) w = Go.Result.ok Go.Proofs.Try.t18 w := fun w => by kernel_rfl
@[simp] theorem Tw.typeInfo19 : ∀ (w : Go.World), Go.Sem.run Tw.prog (Go.typeInfo 19) w = Go.Result.ok Go.Proofs.Try.t19 w := fun w => by kernel_rfl
@[simp] theorem Tw.typeInfo2 : ∀ (w : Go.World), Go.Sem.run Tw.prog (Go.typeInfo 2) w = Go.Result.ok Go.Proofs.Try.t2 w := fun w => by kernel_rfl
@[simp] theorem Tw.typeInfo20 : ∀ (w : Go.World), Go.Sem.run Tw.prog (Go.typeInfo 20) w = Go.Result.ok Go.Proofs.Try.t20 w := fun w => by kernel_rfl
@[simp] theorem Tw.typeInfo21 : ∀ (w : Go.World), Go.Sem.run Tw.prog (Go.typeInfo 21) w = Go.Result.ok Go.Proofs.Try.t21 w := fun w => by kernel_rfl
@[simp] theorem Tw.typeInfo22 : ∀ (w : Go.World), Go.Sem.run Tw.prog (Go.typeInfo 22) w = Go.Result.ok Go.Proofs.Try.t22 w := fun w => by kernel_rfl
@[simp] theorem Tw.typeInfo23 : ∀ (w : Go.World), Go.Sem.run Tw.prog (Go.typeInfo 23) w = Go.Result.ok Go.Proofs.Try.t23 w := fun w => by kernel_rfl
@[simp] theorem Tw.typeInfo24 : ∀ (w : Go.World), Go.Sem.run Tw.prog (Go.typeInfo 24) w = Go.Result.ok Go.Proofs.Try.t24 w := fun w => by kernel_rfl
@[simp] theorem Tw.typeInfo25 : ∀ (w : Go.World), Go.Sem.run Tw.prog (Go.typeInfo 25) w = Go.Result.ok Go.Proofs.Try.t25 w := fun w => by kernel_rfl
@[simp] theorem Tw.typeInfo26 : ∀ (w : Go.World), Go.Sem.run Tw.prog (Go.typeInfo 26) w = Go.Result.ok Go.Proofs.Try.t26 w := fun w => by kernel_rfl
@[simp] theorem Tw.typeInfo27 : ∀ (w : Go.World), Go.Sem.run Tw.prog (Go.typeInfo 27) w = Go.Result.ok Go.Proofs.Try.t27 w := fun w => by kernel_rfl
@[simp] theorem Tw.typeInfo28 : ∀ (w : Go.World), Go.Sem.run Tw.prog (Go.typeInfo 28) w = Go.Result.ok Go.Proofs.Try.t28 w := fun w => by kernel_rfl
@[simp] theorem Tw.typeInfo29 : ∀ (w : Go.World), Go.Sem.run Tw.prog (Go.typeInfo 29) w = Go.Result.ok Go.Proofs.Try.t29 w := fun w => by kernel_rfl
@[simp] theorem Tw.typeInfo3 : ∀ (w : Go.World), Go.Sem.run Tw.prog (Go.typeInfo 3) w = Go.Result.ok Go.Proofs.Try.t3 w := fun w => by kernel_rfl
@[simp] theorem Tw.typeInfo30 : ∀ (w : Go.World), Go.Sem.run Tw.prog (Go.typeInfo 30) w = Go.Result.ok Go.Proofs.Try.t30 w := fun w => by kernel_rfl
@[simp] theorem Tw.typeInfo31 : ∀ (w : Go.World), Go.Sem.run Tw.prog (Go.typeInfo 31) w = Go.Result.ok Go.Proofs.Try.t31 w := fun w => by kernel_rfl
@[simp] theorem Tw.typeInfo32 : ∀ (w : Go.World), Go.Sem.run Tw.prog (Go.typeInfo 32) w = Go.Result.ok Go.Proofs.Try.t32 w := fun w => by kernel_rfl
@[simp] theorem Tw.typeInfo33 : ∀ (w : Go.World), Go.Sem.run Tw.prog (Go.typeInfo 33) w = Go.Result.ok Go.Proofs.Try.t33 w := fun w => by kernel_rfl
@[simp] theorem Tw.typeInfo34 : ∀ (w : Go.World), Go.Sem.run Tw.prog (Go.typeInfo 34) w = Go.Result.ok Go.Proofs.Try.t34 w := fun w => by kernel_rfl
@[simp] theorem Tw.typeInfo35 : ∀ (w : Go.World), Go.Sem.run Tw.prog (Go.typeInfo 35) w = Go.Result.ok Go.Proofs.Try.t35 w := fun w => by kernel_rfl
@[simp] theorem Tw.typeInfo36 : ∀ (w : Go.World), Go.Sem.run Tw.prog (Go.typeInfo 36) w = Go.Result.ok Go.Proofs.Try.t36 w := fun w => by kernel_rfl
@[simp] theorem Tw.typeInfo37 : ∀ (w : Go.World), Go.Sem.run Tw.prog (Go.typeInfo 37) w = Go.Result.ok Go.Proofs.Try.t37 w := fun w => by kernel_rfl
@[simp] theorem Tw.typeInfo38 : ∀ (w : Go.World), Go.Sem.run Tw.prog (Go.typeInfo 38) w = Go.Result.ok Go.Proofs.Try.t38 w := fun w => by kernel_rfl
@[simp] theorem Tw.typeInfo39 : ∀ (w : Go.World), Go.Sem.run Tw.prog (Go.typeInfo 39) w = Go.Result.ok Go.Proofs.Try.t39 w := fun w => by kernel_rfl
@[simp] theorem Tw.typeInfo4 : ∀ (w : Go.World), Go.Sem.run Tw.prog (Go.typeInfo 4) w = Go.Result.ok Go.Proofs.Try.t4 w := fun w => by kernel_rfl
@[simp] theorem Tw.typeInfo40 : ∀ (w : Go.World), Go.Sem.run Tw.prog (Go.typeInfo 40) w = Go.Result.ok Go.Proofs.Try.t40 w := fun w => by kernel_rfl
@[simp] theorem Tw.typeInfo41 : ∀ (w : Go.World), Go.Sem.run Tw.prog (Go.typeInfo 41) w = Go.Result.ok Go.Proofs.Try.t41 w := fun w => by kernel_rfl
@[simp] theorem Tw.typeInfo42 : ∀ (w : Go.World), Go.Sem.run Tw.prog (Go.typeInfo 42) w = Go.Result.ok Go.Proofs.Try.t42 w := fun w => by kernel_rfl
@[simp] theorem Tw.typeInfo43 : ∀ (w : Go.World), Go.Sem.run Tw.prog (Go.typeInfo 43) w = Go.Result.ok Go.Proofs.Try.t43 w := fun w => by kernel_rfl
@[simp] theorem Tw.typeInfo44 : ∀ (w : Go.World), Go.Sem.run Tw.prog (Go.typeInfo 44) w = Go.Result.ok Go.Proofs.Try.t44 w := fun w => by kernel_rfl
@[simp] theorem Tw.typeInfo45 : ∀ (w : Go.World), Go.Sem.run Tw.prog (Go.typeInfo 45) w = Go.Result.ok Go.Proofs.Try.t45 w := fun w => by kernel_rfl
@[simp] theorem Tw.typeInfo46 : ∀ (w : Go.World), Go.Sem.run Tw.prog (Go.typeInfo 46) w = Go.Result.ok Go.Proofs.Try.t46 w := fun w => by kernel_rfl
@[simp] theorem Tw.typeInfo47 : ∀ (w : Go.World), Go.Sem.run Tw.prog (Go.typeInfo 47) w = Go.Result.ok Go.Proofs.Try.t47 w := fun w => by kernel_rfl
@[simp] theorem Tw.typeInfo48 : ∀ (w : Go.World), Go.Sem.run Tw.prog (Go.typeInfo 48) w = Go.Result.ok Go.Proofs.Try.t48 w := fun w => by kernel_rfl
@[simp] theorem Tw.typeInfo49 : ∀ (w : Go.World), Go.Sem.run Tw.prog (Go.typeInfo 49) w = Go.Result.ok Go.Proofs.Try.t49 w := fun w => by kernel_rfl
@[simp] theorem Tw.typeInfo5 : ∀ (w : Go.World), Go.Sem.run Tw.prog (Go.typeInfo 5) w = Go.Result.ok Go.Proofs.Try.t5 w := fun w => by kernel_rfl
@[simp] theorem Tw.typeInfo50 : ∀ (w : Go.World), Go.Sem.run Tw.prog (Go.typeInfo 50) w = Go.Result.ok Go.Proofs.Try.t50 w := fun w => by kernel_rfl
@[simp] theorem Tw.typeInfo51 : ∀ (w : Go.World), Go.Sem.run Tw.prog (Go.typeInfo 51) w = Go.Result.ok Go.Proofs.Try.t51 w := fun w => by kernel_rfl
@[simp] theorem Tw.typeInfo52 : ∀ (w : Go.World), Go.Sem.run Tw.prog (Go.typeInfo 52) w = Go.Result.ok Go.Proofs.Try.t52 w := fun w => by kernel_rfl
@[simp] theorem Tw.typeInfo53 : ∀ (w : Go.World), Go.Sem.run Tw.prog (Go.typeInfo 53) w = Go.Result.ok Go.Proofs.Try.t53 w := fun w => by kernel_rfl
@[simp] theorem Tw.typeInfo54 : ∀ (w : Go.World), Go.Sem.run Tw.prog (Go.typeInfo 54) w = Go.Result.ok Go.Proofs.Try.t54 w := fun w => by kernel_rfl
@[simp] theorem Tw.typeInfo55 : ∀ (w : Go.World), Go.Sem.run Tw.prog (Go.typeInfo 55) w = Go.Result.ok Go.Proofs.Try.t55 w := fun w => by kernel_rfl
@[simp] theorem Tw.typeInfo56 : ∀ (w : Go.World), Go.Sem.run Tw.prog (Go.typeInfo 56) w = Go.Result.ok Go.Proofs.Try.t56 w := fun w => by kernel_rfl
@[simp] theorem Tw.typeInfo57 : ∀ (w : Go.World), Go.Sem.run Tw.prog (Go.typeInfo 57) w = Go.Result.ok Go.Proofs.Try.t57 w := fun w => by kernel_rfl
@[simp] theorem Tw.typeInfo58 : ∀ (w : Go.World), Go.Sem.run Tw.prog (Go.typeInfo 58) w = Go.Result.ok Go.Proofs.Try.t58 w := fun w => by kernel_rfl
@[simp] theorem Tw.typeInfo59 : ∀ (w : Go.World), Go.Sem.run Tw.prog (Go.typeInfo 59) w = Go.Result.ok Go.Proofs.Try.t59 w := fun w => by kernel_rfl
@[simp] theorem Tw.typeInfo6 : ∀ (w : Go.World), Go.Sem.run Tw.prog (Go.typeInfo 6) w = Go.Result.ok Go.Proofs.Try.t6 w := fun w => by kernel_rfl
@[simp] theorem Tw.typeInfo60 : ∀ (w : Go.World), Go.Sem.run Tw.prog (Go.typeInfo 60) w = Go.Result.ok Go.Proofs.Try.t60 w := fun w => by kernel_rfl
@[simp] theorem Tw.typeInfo61 : ∀ (w : Go.World), Go.Sem.run Tw.prog (Go.typeInfo 61) w = Go.Result.ok Go.Proofs.Try.t61 w := fun w => by kernel_rfl
@[simp] theorem Tw.typeInfo62 : ∀ (w : Go.World), Go.Sem.run Tw.prog (Go.typeInfo 62) w = Go.Result.ok Go.Proofs.Try.t62 w := fun w => by kernel_rfl
@[simp] theorem Tw.typeInfo63 : ∀ (w : Go.World), Go.Sem.run Tw.prog (Go.typeInfo 63) w = Go.Result.ok Go.Proofs.Try.t63 w := fun w => by kernel_rfl
@[simp] theorem Tw.typeInfo64 : ∀ (w : Go.World), Go.Sem.run Tw.prog (Go.typeInfo 64) w = Go.Result.ok Go.Proofs.Try.t64 w := fun w => by kernel_rfl
@[simp] theorem Tw.typeInfo65 : ∀ (w : Go.World), Go.Sem.run Tw.prog (Go.typeInfo 65) w = Go.Result.ok Go.Proofs.Try.t65 w := fun w => by kernel_rfl
@[simp] theorem Tw.typeInfo66 : ∀ (w : Go.World), Go.Sem.run Tw.prog (Go.typeInfo 66) w = Go.Result.ok Go.Proofs.Try.t66 w := fun w => by kernel_rfl
@[simp] theorem Tw.typeInfo67 : ∀ (w : Go.World), Go.Sem.run Tw.prog (Go.typeInfo 67) w = Go.Result.ok Go.Proofs.Try.t67 w := fun w => by kernel_rfl
@[simp] theorem Tw.typeInfo68 : ∀ (w : Go.World), Go.Sem.run Tw.prog (Go.typeInfo 68) w = Go.Result.ok Go.Proofs.Try.t68 w := fun w => by kernel_rfl
@[simp] theorem Tw.typeInfo69 : ∀ (w : Go.World), Go.Sem.run Tw.prog (Go.typeInfo 69) w = Go.Result.ok Go.Proofs.Try.t69 w := fun w => by kernel_rfl
@[simp] theorem Tw.typeInfo7 : ∀ (w : Go.World), Go.Sem.run Tw.prog (Go.typeInfo 7) w = Go.Result.ok Go.Proofs.Try.t7 w := fun w => by kernel_rfl
@[simp] theorem Tw.typeInfo70 : ∀ (w : Go.World), Go.Sem.run Tw.prog (Go.typeInfo 70) w = Go.Result.ok Go.Proofs.Try.t70 w := fun w => by kernel_rfl
@[simp] theorem Tw.typeInfo71 : ∀ (w : Go.World), Go.Sem.run Tw.prog (Go.typeInfo 71) w = Go.Result.ok Go.Proofs.Try.t71 w := fun w => by kernel_rfl
@[simp] theorem Tw.typeInfo72 : ∀ (w : Go.World), Go.Sem.run Tw.prog (Go.typeInfo 72) w = Go.Result.ok Go.Proofs.Try.t72 w := fun w => by kernel_rfl
@[simp] theorem Tw.typeInfo73 : ∀ (w : Go.World), Go.Sem.run Tw.prog (Go.typeInfo 73) w = Go.Result.ok Go.Proofs.Try.t73 w := fun w => by kernel_rfl
@[simp] theorem Tw.typeInfo74 : ∀ (w : Go.World), Go.Sem.run Tw.prog (Go.typeInfo 74) w = Go.Result.ok Go.Proofs.Try.t74 w := fun w => by kernel_rfl
@[simp] theorem Tw.typeInfo75 : ∀ (w : Go.World), Go.Sem.run Tw.prog (Go.typeInfo 75) w = Go.Result.ok Go.Proofs.Try.t75 w := fun w => by kernel_rfl
@[simp] theorem Tw.typeInfo76 : ∀ (w : Go.World), Go.Sem.run Tw.prog (Go.typeInfo 76) w = Go.Result.ok Go.Proofs.Try.t76 w := fun w => by kernel_rfl
@[simp] theorem Tw.typeInfo77 : ∀ (w : Go.World), Go.Sem.run Tw.prog (Go.typeInfo 77) w = Go.Result.ok Go.Proofs.Try.t77 w := fun w => by kernel_rfl
@[simp] theorem Tw.typeInfo8 : ∀ (w : Go.World), Go.Sem.run Tw.prog (Go.typeInfo 8) w = Go.Result.ok Go.Proofs.Try.t8 w := fun w => by kernel_rfl
@[simp] theorem Tw.typeInfo9 : ∀ (w : Go.World), Go.Sem.run Tw.prog (Go.typeInfo 9) w = Go.Result.ok Go.Proofs.Try.t9 w := fun w => by kernel_rfl
@[simp] theorem Tw.types_size : Tw.prog.types.size = 78 := by kernel_rfl
@[simp] theorem Tw.underlying0 : Tw.prog.underlying 0 = Option.some (Go.TypeDesc.tuple #[]) := by kernel_rfl
@[simp] theorem Tw.underlying1 : Tw.prog.underlying 1 = Option.some (Go.TypeDesc.func #[] #[] Bool.false) := by kernel_rfl
@[simp] theorem Tw.underlying10 : Tw.prog.underlying 10 = Option.some Go.TypeDesc.string := by kernel_rfl
@[simp] theorem Tw.underlying11 : Tw.prog.underlying 11 = Option.some Go.TypeDesc.string := by kernel_rfl
@[simp] theorem Tw.underlying12 : Tw.prog.underlying 12 = Option.some (Go.TypeDesc.int Go.IntKind.u64) := by kernel_rfl
@[simp] theorem Tw.underlying13 : Tw.prog.underlying 13 = Option.some (Go.TypeDesc.struct #[{ name := "msg", type := 9, offset := 0, embedded := Bool.false, tag := "", pkgPath := "runtime", byteOffset := 0 }, { name := "addr", type := 12, offset := 1, embedded := Bool.false, tag := "", pkgPath := "runtime", byteOffset := 16 }]) := by kernel_rfl
@[simp] theorem Tw.underlying14 : Tw.prog.underlying 14 = Option.some (Go.TypeDesc.struct #[{ name := "msg", type := 9, offset := 0, embedded := Bool.false, tag := "", pkgPath := "runtime", byteOffset := 0 }, { name := "addr", type := 12, offset := 1, embedded := Bool.false, tag := "", pkgPath := "runtime", byteOffset := 16 }]) := by kernel_rfl
@[simp] theorem Tw.underlying15 : Tw.prog.underlying 15 = Option.some (Go.TypeDesc.pointer 64) := by kernel_rfl
@[simp] theorem Tw.underlying16 : Tw.prog.underlying 16 = Option.some (Go.TypeDesc.pointer 67) := by kernel_rfl
@[simp] theorem Tw.underlying17 : Tw.prog.underlying 17 = Option.some (Go.TypeDesc.pointer 76) := by kernel_rfl
@[simp] theorem Tw.underlying18 : Tw.prog.underlying 18 = Option.some (Go.TypeDesc.struct #[{ name := "typ", type := 17, offset := 0, embedded := Bool.false, tag := "", pkgPath := "internal/runtime/maps", byteOffset := 0 }]) := by kernel_rfl
@[simp] theorem Tw.underlying19 : Tw.prog.underlying 19 = Option.some (Go.TypeDesc.struct #[{ name := "typ", type := 17, offset := 0, embedded := Bool.false, tag := "", pkgPath := "internal/runtime/maps", byteOffset := 0 }]) := by kernel_rfl
@[simp] theorem Tw.underlying2 : Tw.prog.underlying 2 = Option.some (Go.TypeDesc.int Go.IntKind.i64) := by kernel_rfl
@[simp] theorem Tw.underlying20 : Tw.prog.underlying 20 = Option.some (Go.TypeDesc.interface #[]) := by kernel_rfl
@[simp] theorem Tw.underlying21 : Tw.prog.underlying 21 = Option.some (Go.TypeDesc.int Go.IntKind.i32) := by kernel_rfl
@[simp] theorem Tw.underlying22 : Tw.prog.underlying 22 = Option.some (Go.TypeDesc.slice 5) := by kernel_rfl
@[simp] theorem Tw.underlying23 : Tw.prog.underlying 23 = Option.some (Go.TypeDesc.func #[22] #[4] Bool.false) := by kernel_rfl
@[simp] theorem Tw.underlying24 : Tw.prog.underlying 24 = Option.some (Go.TypeDesc.tuple #[3, 9]) := by kernel_rfl
@[simp] theorem Tw.underlying25 : Tw.prog.underlying 25 = Option.some (Go.TypeDesc.func #[22] #[3, 9] Bool.false) := by kernel_rfl
@[simp] theorem Tw.underlying26 : Tw.prog.underlying 26 = Option.some (Go.TypeDesc.slice 9) := by kernel_rfl
@[simp] theorem Tw.underlying27 : Tw.prog.underlying 27 = Option.some (Go.TypeDesc.tuple #[26, 4]) := by kernel_rfl
@[simp] theorem Tw.underlying28 : Tw.prog.underlying 28 = Option.some (Go.TypeDesc.func #[3, 9] #[26, 4] Bool.false) := by kernel_rfl
@[simp] theorem Tw.underlying29 : Tw.prog.underlying 29 = Option.some (Go.TypeDesc.tuple #[9, 4]) := by kernel_rfl
@[simp] theorem Tw.underlying3 : Tw.prog.underlying 3 = Option.some (Go.TypeDesc.int Go.IntKind.i64) := by kernel_rfl
@[simp] theorem Tw.underlying30 : Tw.prog.underlying 30 = Option.some (Go.TypeDesc.func #[3, 26, 3] #[9, 4] Bool.false) := by kernel_rfl
@[simp] theorem Tw.underlying31 : Tw.prog.underlying 31 = Option.some (Go.TypeDesc.slice 3) := by kernel_rfl
@[simp] theorem Tw.underlying32 : Tw.prog.underlying 32 = Option.some (Go.TypeDesc.func #[22] #[31] Bool.false) := by kernel_rfl
@[simp] theorem Tw.underlying33 : Tw.prog.underlying 33 = Option.some (Go.TypeDesc.func #[26, 26] #[4] Bool.false) := by kernel_rfl
@[simp] theorem Tw.underlying34 : Tw.prog.underlying 34 = Option.some (Go.TypeDesc.func #[26, 3] #[3] Bool.false) := by kernel_rfl
@[simp] theorem Tw.underlying35 : Tw.prog.underlying 35 = Option.some (Go.TypeDesc.func #[3, 9] #[4] Bool.false) := by kernel_rfl
@[simp] theorem Tw.underlying36 : Tw.prog.underlying 36 = Option.some (Go.TypeDesc.func #[26] #[26] Bool.false) := by kernel_rfl
@[simp] theorem Tw.underlying37 : Tw.prog.underlying 37 = Option.some (Go.TypeDesc.func #[3, 26, 3] #[4] Bool.false) := by kernel_rfl
@[simp] theorem Tw.underlying38 : Tw.prog.underlying 38 = Option.some (Go.TypeDesc.pointer 56) := by kernel_rfl
@[simp] theorem Tw.underlying39 : Tw.prog.underlying 39 = Option.some (Go.TypeDesc.func #[22] #[38] Bool.false) := by kernel_rfl
@[simp] theorem Tw.underlying4 : Tw.prog.underlying 4 = Option.some Go.TypeDesc.bool := by kernel_rfl
@[simp] theorem Tw.underlying40 : Tw.prog.underlying 40 = Option.some (Go.TypeDesc.func #[38, 3] #[3] Bool.false) := by kernel_rfl
@[simp] theorem Tw.underlying41 : Tw.prog.underlying 41 = Option.some (Go.TypeDesc.func #[38, 3] #[9] Bool.false) := by kernel_rfl
@[simp] theorem Tw.underlying42 : Tw.prog.underlying 42 = Option.some (Go.TypeDesc.func #[3] #[3] Bool.false) := by kernel_rfl
@[simp] theorem Tw.underlying43 : Tw.prog.underlying 43 = Option.some (Go.TypeDesc.tuple #[3, 3, 4]) := by kernel_rfl
@[simp] theorem Tw.underlying44 : Tw.prog.underlying 44 = Option.some (Go.TypeDesc.func #[3] #[3, 3, 4] Bool.false) := by kernel_rfl
@[simp] theorem Tw.underlying45 : Tw.prog.underlying 45 = Option.some (Go.TypeDesc.chan Go.ChanDir.recv 48) := by kernel_rfl
@[simp] theorem Tw.underlying46 : Tw.prog.underlying 46 = Option.some (Go.TypeDesc.func #[3, 3] #[45] Bool.false) := by kernel_rfl
@[simp] theorem Tw.underlying47 : Tw.prog.underlying 47 = Option.some (Go.TypeDesc.struct #[{ name := "from", type := 3, offset := 0, embedded := Bool.false, tag := "", pkgPath := "loop.example/g00197/impl", byteOffset := 0 }, { name := "behind", type := 3, offset := 1, embedded := Bool.false, tag := "", pkgPath := "loop.example/g00197/impl", byteOffset := 8 }, { name := "unit", type := 3, offset := 2, embedded := Bool.false, tag := "", pkgPath := "loop.example/g00197/impl", byteOffset := 16 }, { name := "at", type := 3, offset := 3, embedded := Bool.false, tag := "", pkgPath := "loop.example/g00197/impl", byteOffset := 24 }]) := by kernel_rfl
@[simp] theorem Tw.underlying48 : Tw.prog.underlying 48 = Option.some (Go.TypeDesc.struct #[{ name := "from", type := 3, offset := 0, embedded := Bool.false, tag := "", pkgPath := "loop.example/g00197/impl", byteOffset := 0 }, { name := "behind", type := 3, offset := 1, embedded := Bool.false, tag := "", pkgPath := "loop.example/g00197/impl", byteOffset := 8 }, { name := "unit", type := 3, offset := 2, embedded := Bool.false, tag := "", pkgPath := "loop.example/g00197/impl", byteOffset := 16 }, { name := "at", type := 3, offset := 3, embedded := Bool.false, tag := "", pkgPath := "loop.example/g00197/impl", byteOffset := 24 }]) := by kernel_rfl
@[simp] theorem Tw.underlying49 : Tw.prog.underlying 49 = Option.some (Go.TypeDesc.func #[9] #[9] Bool.false) := by kernel_rfl
@[simp] theorem Tw.underlying5 : Tw.prog.underlying 5 = Option.some (Go.TypeDesc.int Go.IntKind.u8) := by kernel_rfl
@[simp] theorem Tw.underlying50 : Tw.prog.underlying 50 = Option.some (Go.TypeDesc.func #[38] #[3] Bool.false) := by kernel_rfl
@[simp] theorem Tw.underlying51 : Tw.prog.underlying 51 = Option.some (Go.TypeDesc.tuple #[3, 3, 3]) := by kernel_rfl
@[simp] theorem Tw.underlying52 : Tw.prog.underlying 52 = Option.some (Go.TypeDesc.func #[3, 3] #[3, 3, 3] Bool.false) := by kernel_rfl
@[simp] theorem Tw.underlying53 : Tw.prog.underlying 53 = Option.some (Go.TypeDesc.func #[3] #[9] Bool.false) := by kernel_rfl
@[simp] theorem Tw.underlying54 : Tw.prog.underlying 54 = Option.some (Go.TypeDesc.func #[3, 3, 3] #[4] Bool.false) := by kernel_rfl
@[simp] theorem Tw.underlying55 : Tw.prog.underlying 55 = Option.some (Go.TypeDesc.struct #[{ name := "b", type := 22, offset := 0, embedded := Bool.false, tag := "", pkgPath := "loop.example/g00197/spec", byteOffset := 0 }, { name := "i", type := 3, offset := 1, embedded := Bool.false, tag := "", pkgPath := "loop.example/g00197/spec", byteOffset := 24 }, { name := "h", type := 3, offset := 2, embedded := Bool.false, tag := "", pkgPath := "loop.example/g00197/spec", byteOffset := 32 }]) := by kernel_rfl
@[simp] theorem Tw.underlying56 : Tw.prog.underlying 56 = Option.some (Go.TypeDesc.struct #[{ name := "b", type := 22, offset := 0, embedded := Bool.false, tag := "", pkgPath := "loop.example/g00197/spec", byteOffset := 0 }, { name := "i", type := 3, offset := 1, embedded := Bool.false, tag := "", pkgPath := "loop.example/g00197/spec", byteOffset := 24 }, { name := "h", type := 3, offset := 2, embedded := Bool.false, tag := "", pkgPath := "loop.example/g00197/spec", byteOffset := 32 }]) := by kernel_rfl
@[simp] theorem Tw.underlying57 : Tw.prog.underlying 57 = Option.some (Go.TypeDesc.chan Go.ChanDir.both 48) := by kernel_rfl
@[simp] theorem Tw.underlying58 : Tw.prog.underlying 58 = Option.some (Go.TypeDesc.func #[3, 3, 60] #[] Bool.false) := by kernel_rfl
@[simp] theorem Tw.underlying59 : Tw.prog.underlying 59 = Option.some (Go.TypeDesc.int Go.IntKind.u64) := by kernel_rfl
@[simp] theorem Tw.underlying6 : Tw.prog.underlying 6 = Option.some (Go.TypeDesc.int Go.IntKind.u8) := by kernel_rfl
@[simp] theorem Tw.underlying60 : Tw.prog.underlying 60 = Option.some (Go.TypeDesc.chan Go.ChanDir.send 48) := by kernel_rfl
@[simp] theorem Tw.underlying61 : Tw.prog.underlying 61 = Option.some (Go.TypeDesc.pointer 5) := by kernel_rfl
@[simp] theorem Tw.underlying62 : Tw.prog.underlying 62 = Option.some (Go.TypeDesc.func #[] #[9] Bool.false) := by kernel_rfl
@[simp] theorem Tw.underlying63 : Tw.prog.underlying 63 = Option.some (Go.TypeDesc.struct #[{ name := "_interface", type := 17, offset := 0, embedded := Bool.false, tag := "", pkgPath := "runtime", byteOffset := 0 }, { name := "concrete", type := 17, offset := 1, embedded := Bool.false, tag := "", pkgPath := "runtime", byteOffset := 8 }, { name := "asserted", type := 17, offset := 2, embedded := Bool.false, tag := "", pkgPath := "runtime", byteOffset := 16 }, { name := "missingMethod", type := 9, offset := 3, embedded := Bool.false, tag := "", pkgPath := "runtime", byteOffset := 24 }]) := by kernel_rfl
@[simp] theorem Tw.underlying64 : Tw.prog.underlying 64 = Option.some (Go.TypeDesc.struct #[{ name := "_interface", type := 17, offset := 0, embedded := Bool.false, tag := "", pkgPath := "runtime", byteOffset := 0 }, { name := "concrete", type := 17, offset := 1, embedded := Bool.false, tag := "", pkgPath := "runtime", byteOffset := 8 }, { name := "asserted", type := 17, offset := 2, embedded := Bool.false, tag := "", pkgPath := "runtime", byteOffset := 16 }, { name := "missingMethod", type := 9, offset := 3, embedded := Bool.false, tag := "", pkgPath := "runtime", byteOffset := 24 }]) := by kernel_rfl
@[simp] theorem Tw.underlying65 : Tw.prog.underlying 65 = Option.some (Go.TypeDesc.array 0 16) := by kernel_rfl
@[simp] theorem Tw.underlying66 : Tw.prog.underlying 66 = Option.some (Go.TypeDesc.struct #[{ name := "_", type := 65, offset := 0, embedded := Bool.false, tag := "", pkgPath := "runtime", byteOffset := 0 }]) := by kernel_rfl
@[simp] theorem Tw.underlying67 : Tw.prog.underlying 67 = Option.some (Go.TypeDesc.struct #[{ name := "_", type := 65, offset := 0, embedded := Bool.false, tag := "", pkgPath := "runtime", byteOffset := 0 }]) := by kernel_rfl
@[simp] theorem Tw.underlying68 : Tw.prog.underlying 68 = Option.some (Go.TypeDesc.func #[] #[3] Bool.false) := by kernel_rfl
@[simp] theorem Tw.underlying69 : Tw.prog.underlying 69 = Option.some (Go.TypeDesc.int Go.IntKind.u32) := by kernel_rfl
@[simp] theorem Tw.underlying7 : Tw.prog.underlying 7 = Option.some (Go.TypeDesc.struct #[{ name := "x", type := 2, offset := 0, embedded := Bool.false, tag := "", pkgPath := "runtime", byteOffset := 0 }, { name := "y", type := 3, offset := 1, embedded := Bool.false, tag := "", pkgPath := "runtime", byteOffset := 8 }, { name := "signed", type := 4, offset := 2, embedded := Bool.false, tag := "", pkgPath := "runtime", byteOffset := 16 }, { name := "code", type := 6, offset := 3, embedded := Bool.false, tag := "", pkgPath := "runtime", byteOffset := 17 }]) := by kernel_rfl
@[simp] theorem Tw.underlying70 : Tw.prog.underlying 70 = Option.some (Go.TypeDesc.int Go.IntKind.u8) := by kernel_rfl
@[simp] theorem Tw.underlying71 : Tw.prog.underlying 71 = Option.some (Go.TypeDesc.int Go.IntKind.u8) := by kernel_rfl
@[simp] theorem Tw.underlying72 : Tw.prog.underlying 72 = Option.some (Go.TypeDesc.func #[77, 77] #[4] Bool.false) := by kernel_rfl
@[simp] theorem Tw.underlying73 : Tw.prog.underlying 73 = Option.some (Go.TypeDesc.int Go.IntKind.i32) := by kernel_rfl
@[simp] theorem Tw.underlying74 : Tw.prog.underlying 74 = Option.some (Go.TypeDesc.int Go.IntKind.i32) := by kernel_rfl
@[simp] theorem Tw.underlying75 : Tw.prog.underlying 75 = Option.some (Go.TypeDesc.struct #[{ name := "Size_", type := 12, offset := 0, embedded := Bool.false, tag := "", pkgPath := "", byteOffset := 0 }, { name := "PtrBytes", type := 12, offset := 1, embedded := Bool.false, tag := "", pkgPath := "", byteOffset := 8 }, { name := "Hash", type := 69, offset := 2, embedded := Bool.false, tag := "", pkgPath := "", byteOffset := 16 }, { name := "TFlag", type := 70, offset := 3, embedded := Bool.false, tag := "", pkgPath := "", byteOffset := 20 }, { name := "Align_", type := 5, offset := 4, embedded := Bool.false, tag := "", pkgPath := "", byteOffset := 21 }, { name := "FieldAlign_", type := 5, offset := 5, embedded := Bool.false, tag := "", pkgPath := "", byteOffset := 22 }, { name := "Kind_", type := 71, offset := 6, embedded := Bool.false, tag := "", pkgPath := "", byteOffset := 23 }, { name := "Equal", type := 72, offset := 7, embedded := Bool.false, tag := "", pkgPath := "", byteOffset := 24 }, { name := "GCData", type := 61, offset := 8, embedded := Bool.false, tag := "", pkgPath := "", byteOffset := 32 }, { name := "Str", type := 73, offset := 9, embedded := Bool.false, tag := "", pkgPath := "", byteOffset := 40 }, { name := "PtrToThis", type := 74, offset := 10, embedded := Bool.false, tag := "", pkgPath := "", byteOffset := 44 }]) := by kernel_rfl
@[simp] theorem Tw.underlying76 : Tw.prog.underlying 76 = Option.some (Go.TypeDesc.struct #[{ name := "Size_", type := 12, offset := 0, embedded := Bool.false, tag := "", pkgPath := "", byteOffset := 0 }, { name := "PtrBytes", type := 12, offset := 1, embedded := Bool.false, tag := "", pkgPath := "", byteOffset := 8 }, { name := "Hash", type := 69, offset := 2, embedded := Bool.false, tag := "", pkgPath := "", byteOffset := 16 }, { name := "TFlag", type := 70, offset := 3, embedded := Bool.false, tag := "", pkgPath := "", byteOffset := 20 }, { name := "Align_", type := 5, offset := 4, embedded := Bool.false, tag := "", pkgPath := "", byteOffset := 21 }, { name := "FieldAlign_", type := 5, offset := 5, embedded := Bool.false, tag := "", pkgPath := "", byteOffset := 22 }, { name := "Kind_", type := 71, offset := 6, embedded := Bool.false, tag := "", pkgPath := "", byteOffset := 23 }, { name := "Equal", type := 72, offset := 7, embedded := Bool.false, tag := "", pkgPath := "", byteOffset := 24 }, { name := "GCData", type := 61, offset := 8, embedded := Bool.false, tag := "", pkgPath := "", byteOffset := 32 }, { name := "Str", type := 73, offset := 9, embedded := Bool.false, tag := "", pkgPath := "", byteOffset := 40 }, { name := "PtrToThis", type := 74, offset := 10, embedded := Bool.false, tag := "", pkgPath := "", byteOffset := 44 }]) := by kernel_rfl
@[simp] theorem Tw.underlying77 : Tw.prog.underlying 77 = Option.some Go.TypeDesc.unsafePointer := by kernel_rfl
@[simp] theorem Tw.underlying8 : Tw.prog.underlying 8 = Option.some (Go.TypeDesc.struct #[{ name := "x", type := 2, offset := 0, embedded := Bool.false, tag := "", pkgPath := "runtime", byteOffset := 0 }, { name := "y", type := 3, offset := 1, embedded := Bool.false, tag := "", pkgPath := "runtime", byteOffset := 8 }, { name := "signed", type := 4, offset := 2, embedded := Bool.false, tag := "", pkgPath := "runtime", byteOffset := 16 }, { name := "code", type := 6, offset := 3, embedded := Bool.false, tag := "", pkgPath := "runtime", byteOffset := 17 }]) := by kernel_rfl
@[simp] theorem Tw.underlying9 : Tw.prog.underlying 9 = Option.some Go.TypeDesc.string := by kernel_rfl
@[simp] theorem Tw.zeroValue0 : ∀ (w : Go.World), Go.Sem.run Tw.prog (Go.zeroValue 0) w = Go.Result.ok (Go.Value.tuple #[]) w := fun w => by kernel_rfl
@[simp] theorem Tw.zeroValue1 : ∀ (w : Go.World), Go.Sem.run Tw.prog (Go.zeroValue 1) w = Go.Result.ok Go.Value.nilFunc w := fun w => by kernel_rfl
@[simp] theorem Tw.zeroValue10 : ∀ (w : Go.World), Go.Sem.run Tw.prog (Go.zeroValue 10) w = Go.Result.ok (Go.Value.string { data := #[] }) w := fun w => by kernel_rfl
@[simp] theorem Tw.zeroValue11 : ∀ (w : Go.World), Go.Sem.run Tw.prog (Go.zeroValue 11) w = Go.Result.ok (Go.Value.string { data := #[] }) w := fun w => by kernel_rfl
@[simp] theorem Tw.zeroValue12 : ∀ (w : Go.World), Go.Sem.run Tw.prog (Go.zeroValue 12) w = Go.Result.ok (Go.Value.int Go.IntKind.u64 0) w := fun w => by kernel_rfl
@[simp] theorem Tw.zeroValue13 : ∀ (w : Go.World), Go.Sem.run Tw.prog (Go.zeroValue 13) w = Go.Result.ok (Go.Value.agg #[Go.Value.string { data := #[] }, Go.Value.int Go.IntKind.u64 0]) w := fun w => by kernel_rfl
@[simp] theorem Tw.zeroValue14 : ∀ (w : Go.World), Go.Sem.run Tw.prog (Go.zeroValue 14) w = Go.Result.ok (Go.Value.agg #[Go.Value.string { data := #[] }, Go.Value.int Go.IntKind.u64 0]) w := fun w => by kernel_rfl
@[simp] theorem Tw.zeroValue15 : ∀ (w : Go.World), Go.Sem.run Tw.prog (Go.zeroValue 15) w = Go.Result.ok (Go.Value.pointer Option.none) w := fun w => by kernel_rfl
@[simp] theorem Tw.zeroValue16 : ∀ (w : Go.World), Go.Sem.run Tw.prog (Go.zeroValue 16) w = Go.Result.ok (Go.Value.pointer Option.none) w := fun w => by kernel_rfl
@[simp] theorem Tw.zeroValue17 : ∀ (w : Go.World), Go.Sem.run Tw.prog (Go.zeroValue 17) w = Go.Result.ok (Go.Value.pointer Option.none) w := fun w => by kernel_rfl
@[simp] theorem Tw.zeroValue18 : ∀ (w : Go.World), Go.Sem.run Tw.prog (Go.zeroValue 18) w = Go.Result.ok (Go.Value.agg #[Go.Value.pointer Option.none]) w := fun w => by kernel_rfl
@[simp] theorem Tw.zeroValue19 : ∀ (w : Go.World), Go.Sem.run Tw.prog (Go.zeroValue 19) w = Go.Result.ok (Go.Value.agg #[Go.Value.pointer Option.none]) w := fun w => by kernel_rfl
@[simp] theorem Tw.zeroValue2 : ∀ (w : Go.World), Go.Sem.run Tw.prog (Go.zeroValue 2) w = Go.Result.ok (Go.Value.int Go.IntKind.i64 0) w := fun w => by kernel_rfl
@[simp] theorem Tw.zeroValue20 : ∀ (w : Go.World), Go.Sem.run Tw.prog (Go.zeroValue 20) w = Go.Result.ok Go.Value.nilIface w := fun w => by kernel_rfl
@[simp] theorem Tw.zeroValue21 : ∀ (w : Go.World), Go.Sem.run Tw.prog (Go.zeroValue 21) w = Go.Result.ok (Go.Value.int Go.IntKind.i32 0) w := fun w => by kernel_rfl
@[simp] theorem Tw.zeroValue22 : ∀ (w : Go.World), Go.Sem.run Tw.prog (Go.zeroValue 22) w = Go.Result.ok (Go.Value.slice Option.none 0 0) w := fun w => by kernel_rfl
@[simp] theorem Tw.zeroValue23 : ∀ (w : Go.World), Go.Sem.run Tw.prog (Go.zeroValue 23) w = Go.Result.ok Go.Value.nilFunc w := fun w => by kernel_rfl
@[simp] theorem Tw.zeroValue24 : ∀ (w : Go.World), Go.Sem.run Tw.prog (Go.zeroValue 24) w = Go.Result.ok (Go.Value.tuple #[Go.Value.int Go.IntKind.i64 0, Go.Value.string { data := #[] }]) w := fun w => by kernel_rfl
@[simp] theorem Tw.zeroValue25 : ∀ (w : Go.World), Go.Sem.run Tw.prog (Go.zeroValue 25) w = Go.Result.ok Go.Value.nilFunc w := fun w => by kernel_rfl
@[simp] theorem Tw.zeroValue26 : ∀ (w : Go.World), Go.Sem.run Tw.prog (Go.zeroValue 26) w = Go.Result.ok (Go.Value.slice Option.none 0 0) w := fun w => by kernel_rfl
@[simp] theorem Tw.zeroValue27 : ∀ (w : Go.World), Go.Sem.run Tw.prog (Go.zeroValue 27) w = Go.Result.ok (Go.Value.tuple #[Go.Value.slice Option.none 0 0, Go.Value.bool Bool.false]) w := fun w => by kernel_rfl
@[simp] theorem Tw.zeroValue28 : ∀ (w : Go.World), Go.Sem.run Tw.prog (Go.zeroValue 28) w = Go.Result.ok Go.Value.nilFunc w := fun w => by kernel_rfl
@[simp] theorem Tw.zeroValue29 : ∀ (w : Go.World), Go.Sem.run Tw.prog (Go.zeroValue 29) w = Go.Result.ok (Go.Value.tuple #[Go.Value.string { data := #[] }, Go.Value.bool Bool.false]) w := fun w => by kernel_rfl
@[simp] theorem Tw.zeroValue3 : ∀ (w : Go.World), Go.Sem.run Tw.prog (Go.zeroValue 3) w = Go.Result.ok (Go.Value.int Go.IntKind.i64 0) w := fun w => by kernel_rfl
@[simp] theorem Tw.zeroValue30 : ∀ (w : Go.World), Go.Sem.run Tw.prog (Go.zeroValue 30) w = Go.Result.ok Go.Value.nilFunc w := fun w => by kernel_rfl
@[simp] theorem Tw.zeroValue31 : ∀ (w : Go.World), Go.Sem.run Tw.prog (Go.zeroValue 31) w = Go.Result.ok (Go.Value.slice Option.none 0 0) w := fun w => by kernel_rfl
@[simp] theorem Tw.zeroValue32 : ∀ (w : Go.World), Go.Sem.run Tw.prog (Go.zeroValue 32) w = Go.Result.ok Go.Value.nilFunc w := fun w => by kernel_rfl
@[simp] theorem Tw.zeroValue33 : ∀ (w : Go.World), Go.Sem.run Tw.prog (Go.zeroValue 33) w = Go.Result.ok Go.Value.nilFunc w := fun w => by kernel_rfl
@[simp] theorem Tw.zeroValue34 : ∀ (w : Go.World), Go.Sem.run Tw.prog (Go.zeroValue 34) w = Go.Result.ok Go.Value.nilFunc w := fun w => by kernel_rfl
@[simp] theorem Tw.zeroValue35 : ∀ (w : Go.World), Go.Sem.run Tw.prog (Go.zeroValue 35) w = Go.Result.ok Go.Value.nilFunc w := fun w => by kernel_rfl
@[simp] theorem Tw.zeroValue36 : ∀ (w : Go.World), Go.Sem.run Tw.prog (Go.zeroValue 36) w = Go.Result.ok Go.Value.nilFunc w := fun w => by kernel_rfl
@[simp] theorem Tw.zeroValue37 : ∀ (w : Go.World), Go.Sem.run Tw.prog (Go.zeroValue 37) w = Go.Result.ok Go.Value.nilFunc w := fun w => by kernel_rfl
@[simp] theorem Tw.zeroValue38 : ∀ (w : Go.World), Go.Sem.run Tw.prog (Go.zeroValue 38) w = Go.Result.ok (Go.Value.pointer Option.none) w := fun w => by kernel_rfl
@[simp] theorem Tw.zeroValue39 : ∀ (w : Go.World), Go.Sem.run Tw.prog (Go.zeroValue 39) w = Go.Result.ok Go.Value.nilFunc w := fun w => by kernel_rfl
@[simp] theorem Tw.zeroValue4 : ∀ (w : Go.World), Go.Sem.run Tw.prog (Go.zeroValue 4) w = Go.Result.ok (Go.Value.bool Bool.false) w := fun w => by kernel_rfl
@[simp] theorem Tw.zeroValue40 : ∀ (w : Go.World), Go.Sem.run Tw.prog (Go.zeroValue 40) w = Go.Result.ok Go.Value.nilFunc w := fun w => by kernel_rfl
@[simp] theorem Tw.zeroValue41 : ∀ (w : Go.World), Go.Sem.run Tw.prog (Go.zeroValue 41) w = Go.Result.ok Go.Value.nilFunc w := fun w => by kernel_rfl
@[simp] theorem Tw.zeroValue42 : ∀ (w : Go.World), Go.Sem.run Tw.prog (Go.zeroValue 42) w = Go.Result.ok Go.Value.nilFunc w := fun w => by kernel_rfl
@[simp] theorem Tw.zeroValue43 : ∀ (w : Go.World), Go.Sem.run Tw.prog (Go.zeroValue 43) w = Go.Result.ok (Go.Value.tuple #[Go.Value.int Go.IntKind.i64 0, Go.Value.int Go.IntKind.i64 0, Go.Value.bool Bool.false]) w := fun w => by kernel_rfl
@[simp] theorem Tw.zeroValue44 : ∀ (w : Go.World), Go.Sem.run Tw.prog (Go.zeroValue 44) w = Go.Result.ok Go.Value.nilFunc w := fun w => by kernel_rfl
@[simp] theorem Tw.zeroValue45 : ∀ (w : Go.World), Go.Sem.run Tw.prog (Go.zeroValue 45) w = Go.Result.ok (Go.Value.chan Option.none) w := fun w => by kernel_rfl
@[simp] theorem Tw.zeroValue46 : ∀ (w : Go.World), Go.Sem.run Tw.prog (Go.zeroValue 46) w = Go.Result.ok Go.Value.nilFunc w := fun w => by kernel_rfl
@[simp] theorem Tw.zeroValue47 : ∀ (w : Go.World), Go.Sem.run Tw.prog (Go.zeroValue 47) w = Go.Result.ok (Go.Value.agg #[Go.Value.int Go.IntKind.i64 0, Go.Value.int Go.IntKind.i64 0, Go.Value.int Go.IntKind.i64 0, Go.Value.int Go.IntKind.i64 0]) w := fun w => by kernel_rfl
@[simp] theorem Tw.zeroValue48 : ∀ (w : Go.World), Go.Sem.run Tw.prog (Go.zeroValue 48) w = Go.Result.ok (Go.Value.agg #[Go.Value.int Go.IntKind.i64 0, Go.Value.int Go.IntKind.i64 0, Go.Value.int Go.IntKind.i64 0, Go.Value.int Go.IntKind.i64 0]) w := fun w => by kernel_rfl
@[simp] theorem Tw.zeroValue49 : ∀ (w : Go.World), Go.Sem.run Tw.prog (Go.zeroValue 49) w = Go.Result.ok Go.Value.nilFunc w := fun w => by kernel_rfl
@[simp] theorem Tw.zeroValue5 : ∀ (w : Go.World), Go.Sem.run Tw.prog (Go.zeroValue 5) w = Go.Result.ok (Go.Value.int Go.IntKind.u8 0) w := fun w => by kernel_rfl
@[simp] theorem Tw.zeroValue50 : ∀ (w : Go.World), Go.Sem.run Tw.prog (Go.zeroValue 50) w = Go.Result.ok Go.Value.nilFunc w := fun w => by kernel_rfl
@[simp] theorem Tw.zeroValue51 : ∀ (w : Go.World), Go.Sem.run Tw.prog (Go.zeroValue 51) w = Go.Result.ok (Go.Value.tuple #[Go.Value.int Go.IntKind.i64 0, Go.Value.int Go.IntKind.i64 0, Go.Value.int Go.IntKind.i64 0]) w := fun w => by kernel_rfl
@[simp] theorem Tw.zeroValue52 : ∀ (w : Go.World), Go.Sem.run Tw.prog (Go.zeroValue 52) w = Go.Result.ok Go.Value.nilFunc w := fun w => by kernel_rfl
@[simp] theorem Tw.zeroValue53 : ∀ (w : Go.World), Go.Sem.run Tw.prog (Go.zeroValue 53) w = Go.Result.ok Go.Value.nilFunc w := fun w => by kernel_rfl
@[simp] theorem Tw.zeroValue54 : ∀ (w : Go.World), Go.Sem.run Tw.prog (Go.zeroValue 54) w = Go.Result.ok Go.Value.nilFunc w := fun w => by kernel_rfl
@[simp] theorem Tw.zeroValue55 : ∀ (w : Go.World), Go.Sem.run Tw.prog (Go.zeroValue 55) w = Go.Result.ok (Go.Value.agg #[Go.Value.slice Option.none 0 0, Go.Value.int Go.IntKind.i64 0, Go.Value.int Go.IntKind.i64 0]) w := fun w => by kernel_rfl
@[simp] theorem Tw.zeroValue56 : ∀ (w : Go.World), Go.Sem.run Tw.prog (Go.zeroValue 56) w = Go.Result.ok (Go.Value.agg #[Go.Value.slice Option.none 0 0, Go.Value.int Go.IntKind.i64 0, Go.Value.int Go.IntKind.i64 0]) w := fun w => by kernel_rfl
@[simp] theorem Tw.zeroValue57 : ∀ (w : Go.World), Go.Sem.run Tw.prog (Go.zeroValue 57) w = Go.Result.ok (Go.Value.chan Option.none) w := fun w => by kernel_rfl
@[simp] theorem Tw.zeroValue58 : ∀ (w : Go.World), Go.Sem.run Tw.prog (Go.zeroValue 58) w = Go.Result.ok Go.Value.nilFunc w := fun w => by kernel_rfl
@[simp] theorem Tw.zeroValue59 : ∀ (w : Go.World), Go.Sem.run Tw.prog (Go.zeroValue 59) w = Go.Result.ok (Go.Value.int Go.IntKind.u64 0) w := fun w => by kernel_rfl
@[simp] theorem Tw.zeroValue6 : ∀ (w : Go.World), Go.Sem.run Tw.prog (Go.zeroValue 6) w = Go.Result.ok (Go.Value.int Go.IntKind.u8 0) w := fun w => by kernel_rfl
@[simp] theorem Tw.zeroValue60 : ∀ (w : Go.World), Go.Sem.run Tw.prog (Go.zeroValue 60) w = Go.Result.ok (Go.Value.chan Option.none) w := fun w => by kernel_rfl
@[simp] theorem Tw.zeroValue61 : ∀ (w : Go.World), Go.Sem.run Tw.prog (Go.zeroValue 61) w = Go.Result.ok (Go.Value.pointer Option.none) w := fun w => by kernel_rfl
@[simp] theorem Tw.zeroValue62 : ∀ (w : Go.World), Go.Sem.run Tw.prog (Go.zeroValue 62) w = Go.Result.ok Go.Value.nilFunc w := fun w => by kernel_rfl
@[simp] theorem Tw.zeroValue63 : ∀ (w : Go.World), Go.Sem.run Tw.prog (Go.zeroValue 63) w = Go.Result.ok (Go.Value.agg #[Go.Value.pointer Option.none, Go.Value.pointer Option.none, Go.Value.pointer Option.none, Go.Value.string { data := #[] }]) w := fun w => by kernel_rfl
@[simp] theorem Tw.zeroValue64 : ∀ (w : Go.World), Go.Sem.run Tw.prog (Go.zeroValue 64) w = Go.Result.ok (Go.Value.agg #[Go.Value.pointer Option.none, Go.Value.pointer Option.none, Go.Value.pointer Option.none, Go.Value.string { data := #[] }]) w := fun w => by kernel_rfl
@[simp] theorem Tw.zeroValue65 : ∀ (w : Go.World), Go.Sem.run Tw.prog (Go.zeroValue 65) w = Go.Result.ok (Go.Value.agg #[]) w := fun w => by kernel_rfl
@[simp] theorem Tw.zeroValue66 : ∀ (w : Go.World), Go.Sem.run Tw.prog (Go.zeroValue 66) w = Go.Result.ok (Go.Value.agg #[]) w := fun w => by kernel_rfl
@[simp] theorem Tw.zeroValue67 : ∀ (w : Go.World), Go.Sem.run Tw.prog (Go.zeroValue 67) w = Go.Result.ok (Go.Value.agg #[]) w := fun w => by kernel_rfl
@[simp] theorem Tw.zeroValue68 : ∀ (w : Go.World), Go.Sem.run Tw.prog (Go.zeroValue 68) w = Go.Result.ok Go.Value.nilFunc w := fun w => by kernel_rfl
@[simp] theorem Tw.zeroValue69 : ∀ (w : Go.World), Go.Sem.run Tw.prog (Go.zeroValue 69) w = Go.Result.ok (Go.Value.int Go.IntKind.u32 0) w := fun w => by kernel_rfl
@[simp] theorem Tw.zeroValue7 : ∀ (w : Go.World), Go.Sem.run Tw.prog (Go.zeroValue 7) w = Go.Result.ok (Go.Value.agg #[Go.Value.int Go.IntKind.i64 0, Go.Value.int Go.IntKind.i64 0, Go.Value.bool Bool.false, Go.Value.int Go.IntKind.u8 0]) w := fun w => by kernel_rfl
@[simp] theorem Tw.zeroValue70 : ∀ (w : Go.World), Go.Sem.run Tw.prog (Go.zeroValue 70) w = Go.Result.ok (Go.Value.int Go.IntKind.u8 0) w := fun w => by kernel_rfl
@[simp] theorem Tw.zeroValue71 : ∀ (w : Go.World), Go.Sem.run Tw.prog (Go.zeroValue 71) w = Go.Result.ok (Go.Value.int Go.IntKind.u8 0) w := fun w => by kernel_rfl
@[simp] theorem Tw.zeroValue72 : ∀ (w : Go.World), Go.Sem.run Tw.prog (Go.zeroValue 72) w = Go.Result.ok Go.Value.nilFunc w := fun w => by kernel_rfl
@[simp] theorem Tw.zeroValue73 : ∀ (w : Go.World), Go.Sem.run Tw.prog (Go.zeroValue 73) w = Go.Result.ok (Go.Value.int Go.IntKind.i32 0) w := fun w => by kernel_rfl
@[simp] theorem Tw.zeroValue74 : ∀ (w : Go.World), Go.Sem.run Tw.prog (Go.zeroValue 74) w = Go.Result.ok (Go.Value.int Go.IntKind.i32 0) w := fun w => by kernel_rfl
@[simp] theorem Tw.zeroValue75 : ∀ (w : Go.World), Go.Sem.run Tw.prog (Go.zeroValue 75) w = Go.Result.ok (Go.Value.agg #[Go.Value.int Go.IntKind.u64 0, Go.Value.int Go.IntKind.u64 0, Go.Value.int Go.IntKind.u32 0, Go.Value.int Go.IntKind.u8 0, Go.Value.int Go.IntKind.u8 0, Go.Value.int Go.IntKind.u8 0, Go.Value.int Go.IntKind.u8 0, Go.Value.nilFunc, Go.Value.pointer Option.none, Go.Value.int Go.IntKind.i32 0, Go.Value.int Go.IntKind.i32 0]) w := fun w => by kernel_rfl
@[simp] theorem Tw.zeroValue76 : ∀ (w : Go.World), Go.Sem.run Tw.prog (Go.zeroValue 76) w = Go.Result.ok (Go.Value.agg #[Go.Value.int Go.IntKind.u64 0, Go.Value.int Go.IntKind.u64 0, Go.Value.int Go.IntKind.u32 0, Go.Value.int Go.IntKind.u8 0, Go.Value.int Go.IntKind.u8 0, Go.Value.int Go.IntKind.u8 0, Go.Value.int Go.IntKind.u8 0, Go.Value.nilFunc, Go.Value.pointer Option.none, Go.Value.int Go.IntKind.i32 0, Go.Value.int Go.IntKind.i32 0]) w := fun w => by kernel_rfl
@[simp] theorem Tw.zeroValue77 : ∀ (w : Go.World), Go.Sem.run Tw.prog (Go.zeroValue 77) w = Go.Result.ok (Go.Value.pointer Option.none) w := fun w => by kernel_rfl
@[simp] theorem Tw.zeroValue8 : ∀ (w : Go.World), Go.Sem.run Tw.prog (Go.zeroValue 8) w = Go.Result.ok (Go.Value.agg #[Go.Value.int Go.IntKind.i64 0, Go.Value.int Go.IntKind.i64 0, Go.Value.bool Bool.false, Go.Value.int Go.IntKind.u8 0]) w := fun w => by kernel_rfl
@[simp] theorem Tw.zeroValue9 : ∀ (w : Go.World), Go.Sem.run Tw.prog (Go.zeroValue 9) w = Go.Result.ok (Go.Value.string { data := #[] }) w := fun w => by kernel_rfl
end Go.Proofs
