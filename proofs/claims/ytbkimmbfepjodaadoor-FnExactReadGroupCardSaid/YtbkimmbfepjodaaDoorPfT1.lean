/- Texts of ours, laid one behind the other: TRows, TBytes. -/
import Derived.Test.YtbkimmbfepjodaaDoorPfM12
import Derived.WalkKit
import Derived.WalkLawsBesides
import Derived.Handy
import Derived.Below
import Derived.Laws.IdiomStrings
import Derived.Laws.BytesArg
import Derived.Maps.AppendAt
import Derived.Laws.DeepStrings4
set_option linter.unusedVariables false
set_option linter.unusedSimpArgs false
/- The twin's tables and functions: the facts of the program's own, said of the twin, each by the kernel (written by twin.py). -/
set_option maxRecDepth 100000
namespace Go.Proofs
open Go
noncomputable def Tw.prog : Go.Program := Go.Proofs.YtbkimmbfepjodaaDoor.tw
@[simp] theorem Tw.call10 : ∀ (args : Array Go.Value) (w : Go.World),   Go.Sem.run Tw.prog (Go.callFunc 10 args) w = Go.Result.ok (Go.Next.enter 10 args) w := fun args w => by kernel_rfl
@[simp] theorem Tw.call11 : ∀ (args : Array Go.Value) (w : Go.World),   Go.Sem.run Tw.prog (Go.callFunc 11 args) w = Go.Result.ok (Go.Next.enter 11 args) w := fun args w => by kernel_rfl
@[simp] theorem Tw.call12 : ∀ (args : Array Go.Value) (w : Go.World),   Go.Sem.run Tw.prog (Go.callFunc 12 args) w = Go.Result.ok (Go.Next.enter 12 args) w := fun args w => by kernel_rfl
@[simp] theorem Tw.call13 : ∀ (args : Array Go.Value) (w : Go.World),   Go.Sem.run Tw.prog (Go.callFunc 13 args) w = Go.Result.ok (Go.Next.enter 13 args) w := fun args w => by kernel_rfl
@[simp] theorem Tw.call14 : ∀ (args : Array Go.Value) (w : Go.World),   Go.Sem.run Tw.prog (Go.callFunc 14 args) w = Go.Result.ok (Go.Next.enter 14 args) w := fun args w => by kernel_rfl
@[simp] theorem Tw.call15 : ∀ (args : Array Go.Value) (w : Go.World),   Go.Sem.run Tw.prog (Go.callFunc 15 args) w = Go.Result.ok (Go.Next.enter 15 args) w := fun args w => by kernel_rfl
@[simp] theorem Tw.call16 : ∀ (args : Array Go.Value) (w : Go.World),   Go.Sem.run Tw.prog (Go.callFunc 16 args) w = Go.Result.ok (Go.Next.enter 16 args) w := fun args w => by kernel_rfl
@[simp] theorem Tw.call17 : ∀ (args : Array Go.Value) (w : Go.World),   Go.Sem.run Tw.prog (Go.callFunc 17 args) w = Go.Result.ok (Go.Next.enter 17 args) w := fun args w => by kernel_rfl
@[simp] theorem Tw.call18 : ∀ (args : Array Go.Value) (w : Go.World),   Go.Sem.run Tw.prog (Go.callFunc 18 args) w = Go.Result.ok (Go.Next.enter 18 args) w := fun args w => by kernel_rfl
@[simp] theorem Tw.call19 : ∀ (args : Array Go.Value) (w : Go.World),   Go.Sem.run Tw.prog (Go.callFunc 19 args) w = Go.Result.ok (Go.Next.enter 19 args) w := fun args w => by kernel_rfl
@[simp] theorem Tw.call20 : ∀ (args : Array Go.Value) (w : Go.World),   Go.Sem.run Tw.prog (Go.callFunc 20 args) w = Go.Result.ok (Go.Next.enter 20 args) w := fun args w => by kernel_rfl
@[simp] theorem Tw.call21 : ∀ (args : Array Go.Value) (w : Go.World),   Go.Sem.run Tw.prog (Go.callFunc 21 args) w = Go.Result.ok (Go.Next.enter 21 args) w := fun args w => by kernel_rfl
@[simp] theorem Tw.call22 : ∀ (args : Array Go.Value) (w : Go.World),   Go.Sem.run Tw.prog (Go.callFunc 22 args) w = Go.Result.ok (Go.Next.enter 22 args) w := fun args w => by kernel_rfl
@[simp] theorem Tw.call23 : ∀ (args : Array Go.Value) (w : Go.World),   Go.Sem.run Tw.prog (Go.callFunc 23 args) w = Go.Result.ok (Go.Next.enter 23 args) w := fun args w => by kernel_rfl
@[simp] theorem Tw.call24 : ∀ (args : Array Go.Value) (w : Go.World),   Go.Sem.run Tw.prog (Go.callFunc 24 args) w = Go.Result.ok (Go.Next.enter 24 args) w := fun args w => by kernel_rfl
@[simp] theorem Tw.call25 : ∀ (args : Array Go.Value) (w : Go.World),   Go.Sem.run Tw.prog (Go.callFunc 25 args) w = Go.Result.ok (Go.Next.enter 25 args) w := fun args w => by kernel_rfl
@[simp] theorem Tw.call26 : ∀ (args : Array Go.Value) (w : Go.World),   Go.Sem.run Tw.prog (Go.callFunc 26 args) w = Go.Result.ok (Go.Next.enter 26 args) w := fun args w => by kernel_rfl
@[simp] theorem Tw.call27 : ∀ (args : Array Go.Value) (w : Go.World),   Go.Sem.run Tw.prog (Go.callFunc 27 args) w = Go.Result.ok (Go.Next.enter 27 args) w := fun args w => by kernel_rfl
@[simp] theorem Tw.call28 : ∀ (args : Array Go.Value) (w : Go.World),   Go.Sem.run Tw.prog (Go.callFunc 28 args) w = Go.Result.ok (Go.Next.enter 28 args) w := fun args w => by kernel_rfl
@[simp] theorem Tw.call29 : ∀ (args : Array Go.Value) (w : Go.World),   Go.Sem.run Tw.prog (Go.callFunc 29 args) w = Go.Result.ok (Go.Next.enter 29 args) w := fun args w => by kernel_rfl
@[simp] theorem Tw.call30 : ∀ (args : Array Go.Value) (w : Go.World),   Go.Sem.run Tw.prog (Go.callFunc 30 args) w = Go.Result.ok (Go.Next.enter 30 args) w := fun args w => by kernel_rfl
@[simp] theorem Tw.call31 : ∀ (args : Array Go.Value) (w : Go.World),   Go.Sem.run Tw.prog (Go.callFunc 31 args) w = Go.Result.ok (Go.Next.enter 31 args) w := fun args w => by kernel_rfl
@[simp] theorem Tw.call32 : ∀ (args : Array Go.Value) (w : Go.World),   Go.Sem.run Tw.prog (Go.callFunc 32 args) w = Go.Result.ok (Go.Next.enter 32 args) w := fun args w => by kernel_rfl
@[simp] theorem Tw.call33 : ∀ (args : Array Go.Value) (w : Go.World),   Go.Sem.run Tw.prog (Go.callFunc 33 args) w = Go.Result.ok (Go.Next.enter 33 args) w := fun args w => by kernel_rfl
@[simp] theorem Tw.call34 : ∀ (args : Array Go.Value) (w : Go.World),   Go.Sem.run Tw.prog (Go.callFunc 34 args) w = Go.Result.ok (Go.Next.enter 34 args) w := fun args w => by kernel_rfl
@[simp] theorem Tw.call35 : ∀ (args : Array Go.Value) (w : Go.World),   Go.Sem.run Tw.prog (Go.callFunc 35 args) w = Go.Result.ok (Go.Next.enter 35 args) w := fun args w => by kernel_rfl
@[simp] theorem Tw.call36 : ∀ (args : Array Go.Value) (w : Go.World),   Go.Sem.run Tw.prog (Go.callFunc 36 args) w = Go.Result.ok (Go.Next.enter 36 args) w := fun args w => by kernel_rfl
@[simp] theorem Tw.call37 : ∀ (args : Array Go.Value) (w : Go.World),   Go.Sem.run Tw.prog (Go.callFunc 37 args) w = Go.Result.ok (Go.Next.enter 37 args) w := fun args w => by kernel_rfl
@[simp] theorem Tw.call38 : ∀ (args : Array Go.Value) (w : Go.World),   Go.Sem.run Tw.prog (Go.callFunc 38 args) w = Go.Result.ok (Go.Next.enter 38 args) w := fun args w => by kernel_rfl
@[simp] theorem Tw.call39 : ∀ (args : Array Go.Value) (w : Go.World),   Go.Sem.run Tw.prog (Go.callFunc 39 args) w = Go.Result.ok (Go.Next.enter 39 args) w := fun args w => by kernel_rfl
@[simp] theorem Tw.call4 : ∀ (args : Array Go.Value) (w : Go.World),   Go.Sem.run Tw.prog (Go.callFunc 4 args) w = Go.Result.ok (Go.Next.enter 4 args) w := fun args w => by kernel_rfl
@[simp] theorem Tw.call40 : ∀ (args : Array Go.Value) (w : Go.World),   Go.Sem.run Tw.prog (Go.callFunc 40 args) w = Go.Result.ok (Go.Next.enter 40 args) w := fun args w => by kernel_rfl
@[simp] theorem Tw.call41 : ∀ (args : Array Go.Value) (w : Go.World),   Go.Sem.run Tw.prog (Go.callFunc 41 args) w = Go.Result.ok (Go.Next.enter 41 args) w := fun args w => by kernel_rfl
@[simp] theorem Tw.call42 : ∀ (args : Array Go.Value) (w : Go.World),   Go.Sem.run Tw.prog (Go.callFunc 42 args) w = Go.Result.ok (Go.Next.enter 42 args) w := fun args w => by kernel_rfl
@[simp] theorem Tw.call43 : ∀ (args : Array Go.Value) (w : Go.World),   Go.Sem.run Tw.prog (Go.callFunc 43 args) w = Go.Result.ok (Go.Next.enter 43 args) w := fun args w => by kernel_rfl
@[simp] theorem Tw.call44 : ∀ (args : Array Go.Value) (w : Go.World),   Go.Sem.run Tw.prog (Go.callFunc 44 args) w = Go.Result.ok (Go.Next.enter 44 args) w := fun args w => by kernel_rfl
@[simp] theorem Tw.call45 : ∀ (args : Array Go.Value) (w : Go.World),   Go.Sem.run Tw.prog (Go.callFunc 45 args) w = Go.Result.ok (Go.Next.enter 45 args) w := fun args w => by kernel_rfl
@[simp] theorem Tw.call46 : ∀ (args : Array Go.Value) (w : Go.World),   Go.Sem.run Tw.prog (Go.callFunc 46 args) w = Go.Result.ok (Go.Next.enter 46 args) w := fun args w => by kernel_rfl
@[simp] theorem Tw.call47 : ∀ (args : Array Go.Value) (w : Go.World),   Go.Sem.run Tw.prog (Go.callFunc 47 args) w = Go.Result.ok (Go.Next.enter 47 args) w := fun args w => by kernel_rfl
@[simp] theorem Tw.call48 : ∀ (args : Array Go.Value) (w : Go.World),   Go.Sem.run Tw.prog (Go.callFunc 48 args) w = Go.Result.ok (Go.Next.enter 48 args) w := fun args w => by kernel_rfl
@[simp] theorem Tw.call49 : ∀ (args : Array Go.Value) (w : Go.World),   Go.Sem.run Tw.prog (Go.callFunc 49 args) w = Go.Result.ok (Go.Next.enter 49 args) w := fun args w => by kernel_rfl
@[simp] theorem Tw.call5 : ∀ (args : Array Go.Value) (w : Go.World),   Go.Sem.run Tw.prog (Go.callFunc 5 args) w = Go.Result.ok (Go.Next.enter 5 args) w := fun args w => by kernel_rfl
@[simp] theorem Tw.call50 : ∀ (args : Array Go.Value) (w : Go.World),   Go.Sem.run Tw.prog (Go.callFunc 50 args) w = Go.Result.ok (Go.Next.enter 50 args) w := fun args w => by kernel_rfl
@[simp] theorem Tw.call51 : ∀ (args : Array Go.Value) (w : Go.World),   Go.Sem.run Tw.prog (Go.callFunc 51 args) w = Go.Result.ok (Go.Next.enter 51 args) w := fun args w => by kernel_rfl
@[simp] theorem Tw.call52 : ∀ (args : Array Go.Value) (w : Go.World),   Go.Sem.run Tw.prog (Go.callFunc 52 args) w = Go.Result.ok (Go.Next.enter 52 args) w := fun args w => by kernel_rfl
@[simp] theorem Tw.call53 : ∀ (args : Array Go.Value) (w : Go.World),   Go.Sem.run Tw.prog (Go.callFunc 53 args) w = Go.Result.ok (Go.Next.enter 53 args) w := fun args w => by kernel_rfl
@[simp] theorem Tw.call54 : ∀ (args : Array Go.Value) (w : Go.World),   Go.Sem.run Tw.prog (Go.callFunc 54 args) w = Go.Result.ok (Go.Next.enter 54 args) w := fun args w => by kernel_rfl
@[simp] theorem Tw.call55 : ∀ (args : Array Go.Value) (w : Go.World),   Go.Sem.run Tw.prog (Go.callFunc 55 args) w = Go.Result.ok (Go.Next.enter 55 args) w := fun args w => by kernel_rfl
@[simp] theorem Tw.call56 : ∀ (args : Array Go.Value) (w : Go.World),   Go.Sem.run Tw.prog (Go.callFunc 56 args) w = Go.Result.ok (Go.Next.enter 56 args) w := fun args w => by kernel_rfl
@[simp] theorem Tw.call57 : ∀ (args : Array Go.Value) (w : Go.World),   Go.Sem.run Tw.prog (Go.callFunc 57 args) w = Go.Result.ok (Go.Next.enter 57 args) w := fun args w => by kernel_rfl
@[simp] theorem Tw.call58 : ∀ (args : Array Go.Value) (w : Go.World),   Go.Sem.run Tw.prog (Go.callFunc 58 args) w = Go.Result.ok (Go.Next.enter 58 args) w := fun args w => by kernel_rfl
@[simp] theorem Tw.call59 : ∀ (args : Array Go.Value) (w : Go.World),   Go.Sem.run Tw.prog (Go.callFunc 59 args) w = Go.Result.ok (Go.Next.enter 59 args) w := fun args w => by kernel_rfl
@[simp] theorem Tw.call6 : ∀ (args : Array Go.Value) (w : Go.World),   Go.Sem.run Tw.prog (Go.callFunc 6 args) w = Go.Result.ok (Go.Next.enter 6 args) w := fun args w => by kernel_rfl
@[simp] theorem Tw.call61 : ∀ (args : Array Go.Value) (w : Go.World),   Go.Sem.run Tw.prog (Go.callFunc 61 args) w = Go.Result.ok (Go.Next.enter 61 args) w := fun args w => by kernel_rfl
@[simp] theorem Tw.call62 : ∀ (args : Array Go.Value) (w : Go.World),   Go.Sem.run Tw.prog (Go.callFunc 62 args) w = Go.Result.ok (Go.Next.enter 62 args) w := fun args w => by kernel_rfl
@[simp] theorem Tw.call63 : ∀ (args : Array Go.Value) (w : Go.World),   Go.Sem.run Tw.prog (Go.callFunc 63 args) w = Go.Result.ok (Go.Next.enter 63 args) w := fun args w => by kernel_rfl
@[simp] theorem Tw.call64 : ∀ (args : Array Go.Value) (w : Go.World),   Go.Sem.run Tw.prog (Go.callFunc 64 args) w = Go.Result.ok (Go.Next.enter 64 args) w := fun args w => by kernel_rfl
@[simp] theorem Tw.call65 : ∀ (args : Array Go.Value) (w : Go.World),   Go.Sem.run Tw.prog (Go.callFunc 65 args) w = Go.Result.ok (Go.Next.enter 65 args) w := fun args w => by kernel_rfl
@[simp] theorem Tw.call66 : ∀ (args : Array Go.Value) (w : Go.World),   Go.Sem.run Tw.prog (Go.callFunc 66 args) w = Go.Result.ok (Go.Next.enter 66 args) w := fun args w => by kernel_rfl
@[simp] theorem Tw.call67 : ∀ (args : Array Go.Value) (w : Go.World),   Go.Sem.run Tw.prog (Go.callFunc 67 args) w = Go.Result.ok (Go.Next.enter 67 args) w := fun args w => by kernel_rfl
@[simp] theorem Tw.call68 : ∀ (args : Array Go.Value) (w : Go.World),   Go.Sem.run Tw.prog (Go.callFunc 68 args) w = Go.Result.ok (Go.Next.enter 68 args) w := fun args w => by kernel_rfl
@[simp] theorem Tw.call69 : ∀ (args : Array Go.Value) (w : Go.World),   Go.Sem.run Tw.prog (Go.callFunc 69 args) w = Go.Result.ok (Go.Next.enter 69 args) w := fun args w => by kernel_rfl
@[simp] theorem Tw.call7 : ∀ (args : Array Go.Value) (w : Go.World),   Go.Sem.run Tw.prog (Go.callFunc 7 args) w = Go.Result.ok (Go.Next.enter 7 args) w := fun args w => by kernel_rfl
@[simp] theorem Tw.call70 : ∀ (args : Array Go.Value) (w : Go.World),   Go.Sem.run Tw.prog (Go.callFunc 70 args) w = Go.Result.ok (Go.Next.enter 70 args) w := fun args w => by kernel_rfl
@[simp] theorem Tw.call71 : ∀ (args : Array Go.Value) (w : Go.World),   Go.Sem.run Tw.prog (Go.callFunc 71 args) w = Go.Result.ok (Go.Next.enter 71 args) w := fun args w => by kernel_rfl
@[simp] theorem Tw.call72 : ∀ (args : Array Go.Value) (w : Go.World),   Go.Sem.run Tw.prog (Go.callFunc 72 args) w = Go.Result.ok (Go.Next.enter 72 args) w := fun args w => by kernel_rfl
@[simp] theorem Tw.call73 : ∀ (args : Array Go.Value) (w : Go.World),   Go.Sem.run Tw.prog (Go.callFunc 73 args) w = Go.Result.ok (Go.Next.enter 73 args) w := fun args w => by kernel_rfl
@[simp] theorem Tw.call74 : ∀ (args : Array Go.Value) (w : Go.World),   Go.Sem.run Tw.prog (Go.callFunc 74 args) w = Go.Result.ok (Go.Next.enter 74 args) w := fun args w => by kernel_rfl
@[simp] theorem Tw.call75 : ∀ (args : Array Go.Value) (w : Go.World),   Go.Sem.run Tw.prog (Go.callFunc 75 args) w = Go.Result.ok (Go.Next.enter 75 args) w := fun args w => by kernel_rfl
@[simp] theorem Tw.call76 : ∀ (args : Array Go.Value) (w : Go.World),   Go.Sem.run Tw.prog (Go.callFunc 76 args) w = Go.Result.ok (Go.Next.enter 76 args) w := fun args w => by kernel_rfl
@[simp] theorem Tw.call78 : ∀ (args : Array Go.Value) (w : Go.World),   Go.Sem.run Tw.prog (Go.callFunc 78 args) w = Go.Result.ok (Go.Next.enter 78 args) w := fun args w => by kernel_rfl
@[simp] theorem Tw.call79 : ∀ (args : Array Go.Value) (w : Go.World),   Go.Sem.run Tw.prog (Go.callFunc 79 args) w = Go.Result.ok (Go.Next.enter 79 args) w := fun args w => by kernel_rfl
@[simp] theorem Tw.call8 : ∀ (args : Array Go.Value) (w : Go.World),   Go.Sem.run Tw.prog (Go.callFunc 8 args) w = Go.Result.ok (Go.Next.enter 8 args) w := fun args w => by kernel_rfl
@[simp] theorem Tw.call80 : ∀ (args : Array Go.Value) (w : Go.World),   Go.Sem.run Tw.prog (Go.callFunc 80 args) w = Go.Result.ok (Go.Next.enter 80 args) w := fun args w => by kernel_rfl
@[simp] theorem Tw.call81 : ∀ (args : Array Go.Value) (w : Go.World),   Go.Sem.run Tw.prog (Go.callFunc 81 args) w = Go.Result.ok (Go.Next.enter 81 args) w := fun args w => by kernel_rfl
@[simp] theorem Tw.call82 : ∀ (args : Array Go.Value) (w : Go.World),   Go.Sem.run Tw.prog (Go.callFunc 82 args) w = Go.Result.ok (Go.Next.enter 82 args) w := fun args w => by kernel_rfl
@[simp] theorem Tw.call83 : ∀ (args : Array Go.Value) (w : Go.World),   Go.Sem.run Tw.prog (Go.callFunc 83 args) w = Go.Result.ok (Go.Next.enter 83 args) w := fun args w => by kernel_rfl
@[simp] theorem Tw.call84 : ∀ (args : Array Go.Value) (w : Go.World),   Go.Sem.run Tw.prog (Go.callFunc 84 args) w = Go.Result.ok (Go.Next.enter 84 args) w := fun args w => by kernel_rfl
@[simp] theorem Tw.call85 : ∀ (args : Array Go.Value) (w : Go.World),   Go.Sem.run Tw.prog (Go.callFunc 85 args) w = Go.Result.ok (Go.Next.enter 85 args) w := fun args w => by kernel_rfl
@[simp] theorem Tw.call86 : ∀ (args : Array Go.Value) (w : Go.World),   Go.Sem.run Tw.prog (Go.callFunc 86 args) w = Go.Result.ok (Go.Next.enter 86 args) w := fun args w => by kernel_rfl
@[simp] theorem Tw.call87 : ∀ (args : Array Go.Value) (w : Go.World),   Go.Sem.run Tw.prog (Go.callFunc 87 args) w = Go.Result.ok (Go.Next.enter 87 args) w := fun args w => by kernel_rfl
@[simp] theorem Tw.call88 : ∀ (args : Array Go.Value) (w : Go.World),   Go.Sem.run Tw.prog (Go.callFunc 88 args) w = Go.Result.ok (Go.Next.enter 88 args) w := fun args w => by kernel_rfl
@[simp] theorem Tw.call89 : ∀ (args : Array Go.Value) (w : Go.World),   Go.Sem.run Tw.prog (Go.callFunc 89 args) w = Go.Result.ok (Go.Next.enter 89 args) w := fun args w => by kernel_rfl
@[simp] theorem Tw.call9 : ∀ (args : Array Go.Value) (w : Go.World),   Go.Sem.run Tw.prog (Go.callFunc 9 args) w = Go.Result.ok (Go.Next.enter 9 args) w := fun args w => by kernel_rfl
@[simp] theorem Tw.call90 : ∀ (args : Array Go.Value) (w : Go.World),   Go.Sem.run Tw.prog (Go.callFunc 90 args) w = Go.Result.ok (Go.Next.enter 90 args) w := fun args w => by kernel_rfl
@[simp] theorem Tw.call91 : ∀ (args : Array Go.Value) (w : Go.World),   Go.Sem.run Tw.prog (Go.callFunc 91 args) w = Go.Result.ok (Go.Next.enter 91 args) w := fun args w => by kernel_rfl
@[simp] theorem Tw.call92 : ∀ (args : Array Go.Value) (w : Go.World),   Go.Sem.run Tw.prog (Go.callFunc 92 args) w = Go.Result.ok (Go.Next.enter 92 args) w := fun args w => by kernel_rfl
@[simp] theorem Tw.call93 : ∀ (args : Array Go.Value) (w : Go.World),   Go.Sem.run Tw.prog (Go.callFunc 93 args) w = Go.Result.ok (Go.Next.enter 93 args) w := fun args w => by kernel_rfl
@[simp] theorem Tw.call94 : ∀ (args : Array Go.Value) (w : Go.World),   Go.Sem.run Tw.prog (Go.callFunc 94 args) w = Go.Result.ok (Go.Next.enter 94 args) w := fun args w => by kernel_rfl
@[simp] theorem Tw.call95 : ∀ (args : Array Go.Value) (w : Go.World),   Go.Sem.run Tw.prog (Go.callFunc 95 args) w = Go.Result.ok (Go.Next.enter 95 args) w := fun args w => by kernel_rfl
@[simp] theorem Tw.func10 : Tw.prog.funcs[10]? = Option.some Go.Proofs.Tryd.f10 := by kernel_rfl
@[simp] theorem Tw.func11 : Tw.prog.funcs[11]? = Option.some Go.Proofs.Tryd.f11 := by kernel_rfl
@[simp] theorem Tw.func12 : Tw.prog.funcs[12]? = Option.some Go.Proofs.Tryd.f12 := by kernel_rfl
@[simp] theorem Tw.func13 : Tw.prog.funcs[13]? = Option.some Go.Proofs.Tryd.f13 := by kernel_rfl
@[simp] theorem Tw.func14 : Tw.prog.funcs[14]? = Option.some Go.Proofs.Tryd.f14 := by kernel_rfl
@[simp] theorem Tw.func15 : Tw.prog.funcs[15]? = Option.some Go.Proofs.Tryd.f15 := by kernel_rfl
@[simp] theorem Tw.func16 : Tw.prog.funcs[16]? = Option.some Go.Proofs.Tryd.f16 := by kernel_rfl
@[simp] theorem Tw.func17 : Tw.prog.funcs[17]? = Option.some Go.Proofs.Tryd.f17 := by kernel_rfl
@[simp] theorem Tw.func18 : Tw.prog.funcs[18]? = Option.some Go.Proofs.Tryd.f18 := by kernel_rfl
@[simp] theorem Tw.func19 : Tw.prog.funcs[19]? = Option.some Go.Proofs.Tryd.f19 := by kernel_rfl
@[simp] theorem Tw.func20 : Tw.prog.funcs[20]? = Option.some Go.Proofs.Tryd.f20 := by kernel_rfl
@[simp] theorem Tw.func21 : Tw.prog.funcs[21]? = Option.some Go.Proofs.Tryd.f21 := by kernel_rfl
@[simp] theorem Tw.func22 : Tw.prog.funcs[22]? = Option.some Go.Proofs.Tryd.f22 := by kernel_rfl
@[simp] theorem Tw.func23 : Tw.prog.funcs[23]? = Option.some Go.Proofs.Tryd.f23 := by kernel_rfl
@[simp] theorem Tw.func24 : Tw.prog.funcs[24]? = Option.some Go.Proofs.Tryd.f24 := by kernel_rfl
@[simp] theorem Tw.func25 : Tw.prog.funcs[25]? = Option.some Go.Proofs.Tryd.f25 := by kernel_rfl
@[simp] theorem Tw.func26 : Tw.prog.funcs[26]? = Option.some Go.Proofs.Tryd.f26 := by kernel_rfl
@[simp] theorem Tw.func27 : Tw.prog.funcs[27]? = Option.some Go.Proofs.Tryd.f27 := by kernel_rfl
@[simp] theorem Tw.func28 : Tw.prog.funcs[28]? = Option.some Go.Proofs.Tryd.f28 := by kernel_rfl
@[simp] theorem Tw.func29 : Tw.prog.funcs[29]? = Option.some Go.Proofs.Tryd.f29 := by kernel_rfl
@[simp] theorem Tw.func3 : Tw.prog.funcs[3]? = Option.some Go.Proofs.Tryd.f3 := by kernel_rfl
@[simp] theorem Tw.func30 : Tw.prog.funcs[30]? = Option.some Go.Proofs.Tryd.f30 := by kernel_rfl
@[simp] theorem Tw.func31 : Tw.prog.funcs[31]? = Option.some Go.Proofs.Tryd.f31 := by kernel_rfl
@[simp] theorem Tw.func32 : Tw.prog.funcs[32]? = Option.some Go.Proofs.Tryd.f32 := by kernel_rfl
@[simp] theorem Tw.func33 : Tw.prog.funcs[33]? = Option.some Go.Proofs.Tryd.f33 := by kernel_rfl
@[simp] theorem Tw.func34 : Tw.prog.funcs[34]? = Option.some Go.Proofs.Tryd.f34 := by kernel_rfl
@[simp] theorem Tw.func35 : Tw.prog.funcs[35]? = Option.some Go.Proofs.Tryd.f35 := by kernel_rfl
@[simp] theorem Tw.func36 : Tw.prog.funcs[36]? = Option.some Go.Proofs.Tryd.f36 := by kernel_rfl
@[simp] theorem Tw.func38 : Tw.prog.funcs[38]? = Option.some Go.Proofs.Tryd.f38 := by kernel_rfl
@[simp] theorem Tw.func39 : Tw.prog.funcs[39]? = Option.some Go.Proofs.Tryd.f39 := by kernel_rfl
@[simp] theorem Tw.func4 : Tw.prog.funcs[4]? = Option.some Go.Proofs.Tryd.f4 := by kernel_rfl
@[simp] theorem Tw.func40 : Tw.prog.funcs[40]? = Option.some Go.Proofs.Tryd.f40 := by kernel_rfl
@[simp] theorem Tw.func41 : Tw.prog.funcs[41]? = Option.some Go.Proofs.Tryd.f41 := by kernel_rfl
@[simp] theorem Tw.func42 : Tw.prog.funcs[42]? = Option.some Go.Proofs.Tryd.f42 := by kernel_rfl
@[simp] theorem Tw.func43 : Tw.prog.funcs[43]? = Option.some Go.Proofs.Tryd.f43 := by kernel_rfl
@[simp] theorem Tw.func44 : Tw.prog.funcs[44]? = Option.some Go.Proofs.Tryd.f44 := by kernel_rfl
@[simp] theorem Tw.func45 : Tw.prog.funcs[45]? = Option.some Go.Proofs.Tryd.f45 := by kernel_rfl
@[simp] theorem Tw.func46 : Tw.prog.funcs[46]? = Option.some Go.Proofs.Tryd.f46 := by kernel_rfl
@[simp] theorem Tw.func47 : Tw.prog.funcs[47]? = Option.some Go.Proofs.Tryd.f47 := by kernel_rfl
@[simp] theorem Tw.func48 : Tw.prog.funcs[48]? = Option.some Go.Proofs.Tryd.f48 := by kernel_rfl
@[simp] theorem Tw.func49 : Tw.prog.funcs[49]? = Option.some Go.Proofs.Tryd.f49 := by kernel_rfl
@[simp] theorem Tw.func5 : Tw.prog.funcs[5]? = Option.some Go.Proofs.Tryd.f5 := by kernel_rfl
@[simp] theorem Tw.func50 : Tw.prog.funcs[50]? = Option.some Go.Proofs.Tryd.f50 := by kernel_rfl
@[simp] theorem Tw.func51 : Tw.prog.funcs[51]? = Option.some Go.Proofs.Tryd.f51 := by kernel_rfl
@[simp] theorem Tw.func52 : Tw.prog.funcs[52]? = Option.some Go.Proofs.Tryd.f52 := by kernel_rfl
@[simp] theorem Tw.func53 : Tw.prog.funcs[53]? = Option.some Go.Proofs.Tryd.f53 := by kernel_rfl
@[simp] theorem Tw.func54 : Tw.prog.funcs[54]? = Option.some Go.Proofs.Tryd.f54 := by kernel_rfl
@[simp] theorem Tw.func55 : Tw.prog.funcs[55]? = Option.some Go.Proofs.Tryd.f55 := by kernel_rfl
@[simp] theorem Tw.func56 : Tw.prog.funcs[56]? = Option.some Go.Proofs.Tryd.f56 := by kernel_rfl
@[simp] theorem Tw.func57 : Tw.prog.funcs[57]? = Option.some Go.Proofs.Tryd.f57 := by kernel_rfl
@[simp] theorem Tw.func58 : Tw.prog.funcs[58]? = Option.some Go.Proofs.Tryd.f58 := by kernel_rfl
@[simp] theorem Tw.func59 : Tw.prog.funcs[59]? = Option.some Go.Proofs.Tryd.f59 := by kernel_rfl
@[simp] theorem Tw.func6 : Tw.prog.funcs[6]? = Option.some Go.Proofs.Tryd.f6 := by kernel_rfl
@[simp] theorem Tw.func61 : Tw.prog.funcs[61]? = Option.some Go.Proofs.Tryd.f61 := by kernel_rfl
@[simp] theorem Tw.func62 : Tw.prog.funcs[62]? = Option.some Go.Proofs.Tryd.f62 := by kernel_rfl
@[simp] theorem Tw.func63 : Tw.prog.funcs[63]? = Option.some Go.Proofs.Tryd.f63 := by kernel_rfl
@[simp] theorem Tw.func64 : Tw.prog.funcs[64]? = Option.some Go.Proofs.Tryd.f64 := by kernel_rfl
@[simp] theorem Tw.func65 : Tw.prog.funcs[65]? = Option.some Go.Proofs.Tryd.f65 := by kernel_rfl
@[simp] theorem Tw.func66 : Tw.prog.funcs[66]? = Option.some Go.Proofs.Tryd.f66 := by kernel_rfl
@[simp] theorem Tw.func67 : Tw.prog.funcs[67]? = Option.some Go.Proofs.Tryd.f67 := by kernel_rfl
@[simp] theorem Tw.func68 : Tw.prog.funcs[68]? = Option.some Go.Proofs.Tryd.f68 := by kernel_rfl
@[simp] theorem Tw.func69 : Tw.prog.funcs[69]? = Option.some Go.Proofs.Tryd.f69 := by kernel_rfl
@[simp] theorem Tw.func7 : Tw.prog.funcs[7]? = Option.some Go.Proofs.Tryd.f7 := by kernel_rfl
@[simp] theorem Tw.func70 : Tw.prog.funcs[70]? = Option.some Go.Proofs.Tryd.f70 := by kernel_rfl
@[simp] theorem Tw.func71 : Tw.prog.funcs[71]? = Option.some Go.Proofs.Tryd.f71 := by kernel_rfl
@[simp] theorem Tw.func72 : Tw.prog.funcs[72]? = Option.some Go.Proofs.Tryd.f72 := by kernel_rfl
@[simp] theorem Tw.func73 : Tw.prog.funcs[73]? = Option.some Go.Proofs.Tryd.f73 := by kernel_rfl
@[simp] theorem Tw.func74 : Tw.prog.funcs[74]? = Option.some Go.Proofs.Tryd.f74 := by kernel_rfl
@[simp] theorem Tw.func75 : Tw.prog.funcs[75]? = Option.some Go.Proofs.Tryd.f75 := by kernel_rfl
@[simp] theorem Tw.func76 : Tw.prog.funcs[76]? = Option.some Go.Proofs.Tryd.f76 := by kernel_rfl
@[simp] theorem Tw.func78 : Tw.prog.funcs[78]? = Option.some Go.Proofs.Tryd.f78 := by kernel_rfl
@[simp] theorem Tw.func79 : Tw.prog.funcs[79]? = Option.some Go.Proofs.Tryd.f79 := by kernel_rfl
@[simp] theorem Tw.func8 : Tw.prog.funcs[8]? = Option.some Go.Proofs.Tryd.f8 := by kernel_rfl
@[simp] theorem Tw.func80 : Tw.prog.funcs[80]? = Option.some Go.Proofs.Tryd.f80 := by kernel_rfl
@[simp] theorem Tw.func81 : Tw.prog.funcs[81]? = Option.some Go.Proofs.Tryd.f81 := by kernel_rfl
@[simp] theorem Tw.func82 : Tw.prog.funcs[82]? = Option.some Go.Proofs.Tryd.f82 := by kernel_rfl
@[simp] theorem Tw.func83 : Tw.prog.funcs[83]? = Option.some Go.Proofs.Tryd.f83 := by kernel_rfl
@[simp] theorem Tw.func84 : Tw.prog.funcs[84]? = Option.some Go.Proofs.Tryd.f84 := by kernel_rfl
@[simp] theorem Tw.func85 : Tw.prog.funcs[85]? = Option.some Go.Proofs.Tryd.f85 := by kernel_rfl
@[simp] theorem Tw.func86 : Tw.prog.funcs[86]? = Option.some Go.Proofs.Tryd.f86 := by kernel_rfl
@[simp] theorem Tw.func87 : Tw.prog.funcs[87]? = Option.some Go.Proofs.Tryd.f87 := by kernel_rfl
@[simp] theorem Tw.func88 : Tw.prog.funcs[88]? = Option.some Go.Proofs.Tryd.f88 := by kernel_rfl
@[simp] theorem Tw.func89 : Tw.prog.funcs[89]? = Option.some Go.Proofs.Tryd.f89 := by kernel_rfl
@[simp] theorem Tw.func9 : Tw.prog.funcs[9]? = Option.some Go.Proofs.Tryd.f9 := by kernel_rfl
@[simp] theorem Tw.func90 : Tw.prog.funcs[90]? = Option.some Go.Proofs.Tryd.f90 := by kernel_rfl
@[simp] theorem Tw.func91 : Tw.prog.funcs[91]? = Option.some Go.Proofs.Tryd.f91 := by kernel_rfl
@[simp] theorem Tw.func92 : Tw.prog.funcs[92]? = Option.some Go.Proofs.Tryd.f92 := by kernel_rfl
@[simp] theorem Tw.func93 : Tw.prog.funcs[93]? = Option.some Go.Proofs.Tryd.f93 := by kernel_rfl
@[simp] theorem Tw.func94 : Tw.prog.funcs[94]? = Option.some Go.Proofs.Tryd.f94 := by kernel_rfl
@[simp] theorem Tw.func95 : Tw.prog.funcs[95]? = Option.some Go.Proofs.Tryd.f95 := by kernel_rfl
@[simp] theorem Tw.isAgg0 : ∀ (w : Go.World), Go.Sem.run Tw.prog (Go.isAgg 0) w = Go.Result.ok Bool.false w := fun w => by kernel_rfl
@[simp] theorem Tw.isAgg100 : ∀ (w : Go.World), Go.Sem.run Tw.prog (Go.isAgg 100) w = Go.Result.ok Bool.true w := fun w => by kernel_rfl
@[simp] theorem Tw.isAgg105 : ∀ (w : Go.World), Go.Sem.run Tw.prog (Go.isAgg 105) w = Go.Result.ok Bool.false w := fun w => by kernel_rfl
@[simp] theorem Tw.isAgg118 : ∀ (w : Go.World), Go.Sem.run Tw.prog (Go.isAgg 118) w = Go.Result.ok Bool.false w := fun w => by kernel_rfl
@[simp] theorem Tw.isAgg3 : ∀ (w : Go.World), Go.Sem.run Tw.prog (Go.isAgg 3) w = Go.Result.ok Bool.false w := fun w => by kernel_rfl
@[simp] theorem Tw.isAgg31 : ∀ (w : Go.World), Go.Sem.run Tw.prog (Go.isAgg 31) w = Go.Result.ok Bool.false w := fun w => by kernel_rfl
@[simp] theorem Tw.isAgg33 : ∀ (w : Go.World), Go.Sem.run Tw.prog (Go.isAgg 33) w = Go.Result.ok Bool.true w := fun w => by kernel_rfl
@[simp] theorem Tw.isAgg4 : ∀ (w : Go.World), Go.Sem.run Tw.prog (Go.isAgg 4) w = Go.Result.ok Bool.false w := fun w => by kernel_rfl
@[simp] theorem Tw.isAgg41 : ∀ (w : Go.World), Go.Sem.run Tw.prog (Go.isAgg 41) w = Go.Result.ok Bool.false w := fun w => by kernel_rfl
@[simp] theorem Tw.isAgg43 : ∀ (w : Go.World), Go.Sem.run Tw.prog (Go.isAgg 43) w = Go.Result.ok Bool.true w := fun w => by kernel_rfl
@[simp] theorem Tw.isAgg5 : ∀ (w : Go.World), Go.Sem.run Tw.prog (Go.isAgg 5) w = Go.Result.ok Bool.false w := fun w => by kernel_rfl
@[simp] theorem Tw.isAgg52 : ∀ (w : Go.World), Go.Sem.run Tw.prog (Go.isAgg 52) w = Go.Result.ok Bool.false w := fun w => by kernel_rfl
@[simp] theorem Tw.isAgg58 : ∀ (w : Go.World), Go.Sem.run Tw.prog (Go.isAgg 58) w = Go.Result.ok Bool.false w := fun w => by kernel_rfl
@[simp] theorem Tw.isAgg73 : ∀ (w : Go.World), Go.Sem.run Tw.prog (Go.isAgg 73) w = Go.Result.ok Bool.true w := fun w => by kernel_rfl
@[simp] theorem Tw.isAgg75 : ∀ (w : Go.World), Go.Sem.run Tw.prog (Go.isAgg 75) w = Go.Result.ok Bool.true w := fun w => by kernel_rfl
@[simp] theorem Tw.isAgg9 : ∀ (w : Go.World), Go.Sem.run Tw.prog (Go.isAgg 9) w = Go.Result.ok Bool.false w := fun w => by kernel_rfl
@[simp] theorem Tw.isAgg90 : ∀ (w : Go.World), Go.Sem.run Tw.prog (Go.isAgg 90) w = Go.Result.ok Bool.false w := fun w => by kernel_rfl
@[simp] theorem Tw.isAgg95 : ∀ (w : Go.World), Go.Sem.run Tw.prog (Go.isAgg 95) w = Go.Result.ok Bool.false w := fun w => by kernel_rfl
theorem Tw.ntmps10 : Go.Proofs.Tryd.f10.ntmps = 71 := Go.Proofs.Tryd.ntmps10
theorem Tw.ntmps11 : Go.Proofs.Tryd.f11.ntmps = 110 := Go.Proofs.Tryd.ntmps11
theorem Tw.ntmps12 : Go.Proofs.Tryd.f12.ntmps = 70 := Go.Proofs.Tryd.ntmps12
theorem Tw.ntmps13 : Go.Proofs.Tryd.f13.ntmps = 15 := Go.Proofs.Tryd.ntmps13
theorem Tw.ntmps14 : Go.Proofs.Tryd.f14.ntmps = 46 := Go.Proofs.Tryd.ntmps14
theorem Tw.ntmps15 : Go.Proofs.Tryd.f15.ntmps = 67 := Go.Proofs.Tryd.ntmps15
theorem Tw.ntmps16 : Go.Proofs.Tryd.f16.ntmps = 67 := Go.Proofs.Tryd.ntmps16
theorem Tw.ntmps17 : Go.Proofs.Tryd.f17.ntmps = 21 := Go.Proofs.Tryd.ntmps17
theorem Tw.ntmps18 : Go.Proofs.Tryd.f18.ntmps = 27 := Go.Proofs.Tryd.ntmps18
theorem Tw.ntmps19 : Go.Proofs.Tryd.f19.ntmps = 12 := Go.Proofs.Tryd.ntmps19
theorem Tw.ntmps20 : Go.Proofs.Tryd.f20.ntmps = 42 := Go.Proofs.Tryd.ntmps20
theorem Tw.ntmps21 : Go.Proofs.Tryd.f21.ntmps = 49 := Go.Proofs.Tryd.ntmps21
theorem Tw.ntmps22 : Go.Proofs.Tryd.f22.ntmps = 180 := Go.Proofs.Tryd.ntmps22
theorem Tw.ntmps23 : Go.Proofs.Tryd.f23.ntmps = 54 := Go.Proofs.Tryd.ntmps23
theorem Tw.ntmps24 : Go.Proofs.Tryd.f24.ntmps = 15 := Go.Proofs.Tryd.ntmps24
theorem Tw.ntmps25 : Go.Proofs.Tryd.f25.ntmps = 15 := Go.Proofs.Tryd.ntmps25
theorem Tw.ntmps26 : Go.Proofs.Tryd.f26.ntmps = 46 := Go.Proofs.Tryd.ntmps26
theorem Tw.ntmps27 : Go.Proofs.Tryd.f27.ntmps = 23 := Go.Proofs.Tryd.ntmps27
theorem Tw.ntmps28 : Go.Proofs.Tryd.f28.ntmps = 12 := Go.Proofs.Tryd.ntmps28
theorem Tw.ntmps29 : Go.Proofs.Tryd.f29.ntmps = 28 := Go.Proofs.Tryd.ntmps29
theorem Tw.ntmps3 : Go.Proofs.Tryd.f3.ntmps = 52 := Go.Proofs.Tryd.ntmps3
theorem Tw.ntmps30 : Go.Proofs.Tryd.f30.ntmps = 25 := Go.Proofs.Tryd.ntmps30
theorem Tw.ntmps31 : Go.Proofs.Tryd.f31.ntmps = 25 := Go.Proofs.Tryd.ntmps31
theorem Tw.ntmps32 : Go.Proofs.Tryd.f32.ntmps = 30 := Go.Proofs.Tryd.ntmps32
theorem Tw.ntmps33 : Go.Proofs.Tryd.f33.ntmps = 19 := Go.Proofs.Tryd.ntmps33
theorem Tw.ntmps34 : Go.Proofs.Tryd.f34.ntmps = 27 := Go.Proofs.Tryd.ntmps34
theorem Tw.ntmps35 : Go.Proofs.Tryd.f35.ntmps = 51 := Go.Proofs.Tryd.ntmps35
theorem Tw.ntmps36 : Go.Proofs.Tryd.f36.ntmps = 15 := Go.Proofs.Tryd.ntmps36
theorem Tw.ntmps38 : Go.Proofs.Tryd.f38.ntmps = 27 := Go.Proofs.Tryd.ntmps38
theorem Tw.ntmps39 : Go.Proofs.Tryd.f39.ntmps = 13 := Go.Proofs.Tryd.ntmps39
theorem Tw.ntmps4 : Go.Proofs.Tryd.f4.ntmps = 27 := Go.Proofs.Tryd.ntmps4
theorem Tw.ntmps40 : Go.Proofs.Tryd.f40.ntmps = 34 := Go.Proofs.Tryd.ntmps40
theorem Tw.ntmps41 : Go.Proofs.Tryd.f41.ntmps = 6 := Go.Proofs.Tryd.ntmps41
theorem Tw.ntmps42 : Go.Proofs.Tryd.f42.ntmps = 26 := Go.Proofs.Tryd.ntmps42
theorem Tw.ntmps43 : Go.Proofs.Tryd.f43.ntmps = 9 := Go.Proofs.Tryd.ntmps43
theorem Tw.ntmps44 : Go.Proofs.Tryd.f44.ntmps = 51 := Go.Proofs.Tryd.ntmps44
theorem Tw.ntmps45 : Go.Proofs.Tryd.f45.ntmps = 24 := Go.Proofs.Tryd.ntmps45
theorem Tw.ntmps46 : Go.Proofs.Tryd.f46.ntmps = 31 := Go.Proofs.Tryd.ntmps46
theorem Tw.ntmps47 : Go.Proofs.Tryd.f47.ntmps = 37 := Go.Proofs.Tryd.ntmps47
theorem Tw.ntmps48 : Go.Proofs.Tryd.f48.ntmps = 28 := Go.Proofs.Tryd.ntmps48
theorem Tw.ntmps49 : Go.Proofs.Tryd.f49.ntmps = 17 := Go.Proofs.Tryd.ntmps49
theorem Tw.ntmps5 : Go.Proofs.Tryd.f5.ntmps = 36 := Go.Proofs.Tryd.ntmps5
theorem Tw.ntmps50 : Go.Proofs.Tryd.f50.ntmps = 37 := Go.Proofs.Tryd.ntmps50
theorem Tw.ntmps51 : Go.Proofs.Tryd.f51.ntmps = 12 := Go.Proofs.Tryd.ntmps51
theorem Tw.ntmps52 : Go.Proofs.Tryd.f52.ntmps = 22 := Go.Proofs.Tryd.ntmps52
theorem Tw.ntmps53 : Go.Proofs.Tryd.f53.ntmps = 18 := Go.Proofs.Tryd.ntmps53
theorem Tw.ntmps54 : Go.Proofs.Tryd.f54.ntmps = 32 := Go.Proofs.Tryd.ntmps54
theorem Tw.ntmps55 : Go.Proofs.Tryd.f55.ntmps = 33 := Go.Proofs.Tryd.ntmps55
theorem Tw.ntmps56 : Go.Proofs.Tryd.f56.ntmps = 20 := Go.Proofs.Tryd.ntmps56
theorem Tw.ntmps57 : Go.Proofs.Tryd.f57.ntmps = 33 := Go.Proofs.Tryd.ntmps57
theorem Tw.ntmps58 : Go.Proofs.Tryd.f58.ntmps = 34 := Go.Proofs.Tryd.ntmps58
theorem Tw.ntmps59 : Go.Proofs.Tryd.f59.ntmps = 26 := Go.Proofs.Tryd.ntmps59
theorem Tw.ntmps6 : Go.Proofs.Tryd.f6.ntmps = 23 := Go.Proofs.Tryd.ntmps6
theorem Tw.ntmps61 : Go.Proofs.Tryd.f61.ntmps = 25 := Go.Proofs.Tryd.ntmps61
theorem Tw.ntmps62 : Go.Proofs.Tryd.f62.ntmps = 5 := Go.Proofs.Tryd.ntmps62
theorem Tw.ntmps63 : Go.Proofs.Tryd.f63.ntmps = 10 := Go.Proofs.Tryd.ntmps63
theorem Tw.ntmps64 : Go.Proofs.Tryd.f64.ntmps = 19 := Go.Proofs.Tryd.ntmps64
theorem Tw.ntmps65 : Go.Proofs.Tryd.f65.ntmps = 27 := Go.Proofs.Tryd.ntmps65
theorem Tw.ntmps66 : Go.Proofs.Tryd.f66.ntmps = 9 := Go.Proofs.Tryd.ntmps66
theorem Tw.ntmps67 : Go.Proofs.Tryd.f67.ntmps = 7 := Go.Proofs.Tryd.ntmps67
theorem Tw.ntmps68 : Go.Proofs.Tryd.f68.ntmps = 5 := Go.Proofs.Tryd.ntmps68
theorem Tw.ntmps69 : Go.Proofs.Tryd.f69.ntmps = 24 := Go.Proofs.Tryd.ntmps69
theorem Tw.ntmps7 : Go.Proofs.Tryd.f7.ntmps = 34 := Go.Proofs.Tryd.ntmps7
theorem Tw.ntmps70 : Go.Proofs.Tryd.f70.ntmps = 7 := Go.Proofs.Tryd.ntmps70
theorem Tw.ntmps71 : Go.Proofs.Tryd.f71.ntmps = 26 := Go.Proofs.Tryd.ntmps71
theorem Tw.ntmps72 : Go.Proofs.Tryd.f72.ntmps = 30 := Go.Proofs.Tryd.ntmps72
theorem Tw.ntmps73 : Go.Proofs.Tryd.f73.ntmps = 20 := Go.Proofs.Tryd.ntmps73
theorem Tw.ntmps74 : Go.Proofs.Tryd.f74.ntmps = 22 := Go.Proofs.Tryd.ntmps74
theorem Tw.ntmps75 : Go.Proofs.Tryd.f75.ntmps = 8 := Go.Proofs.Tryd.ntmps75
theorem Tw.ntmps76 : Go.Proofs.Tryd.f76.ntmps = 22 := Go.Proofs.Tryd.ntmps76
theorem Tw.ntmps78 : Go.Proofs.Tryd.f78.ntmps = 33 := Go.Proofs.Tryd.ntmps78
theorem Tw.ntmps79 : Go.Proofs.Tryd.f79.ntmps = 19 := Go.Proofs.Tryd.ntmps79
theorem Tw.ntmps8 : Go.Proofs.Tryd.f8.ntmps = 27 := Go.Proofs.Tryd.ntmps8
theorem Tw.ntmps80 : Go.Proofs.Tryd.f80.ntmps = 8 := Go.Proofs.Tryd.ntmps80
theorem Tw.ntmps81 : Go.Proofs.Tryd.f81.ntmps = 8 := Go.Proofs.Tryd.ntmps81
theorem Tw.ntmps82 : Go.Proofs.Tryd.f82.ntmps = 8 := Go.Proofs.Tryd.ntmps82
theorem Tw.ntmps84 : Go.Proofs.Tryd.f84.ntmps = 5 := Go.Proofs.Tryd.ntmps84
theorem Tw.ntmps85 : Go.Proofs.Tryd.f85.ntmps = 37 := Go.Proofs.Tryd.ntmps85
theorem Tw.ntmps86 : Go.Proofs.Tryd.f86.ntmps = 33 := Go.Proofs.Tryd.ntmps86
theorem Tw.ntmps87 : Go.Proofs.Tryd.f87.ntmps = 27 := Go.Proofs.Tryd.ntmps87
theorem Tw.ntmps88 : Go.Proofs.Tryd.f88.ntmps = 10 := Go.Proofs.Tryd.ntmps88
theorem Tw.ntmps89 : Go.Proofs.Tryd.f89.ntmps = 6 := Go.Proofs.Tryd.ntmps89
theorem Tw.ntmps9 : Go.Proofs.Tryd.f9.ntmps = 12 := Go.Proofs.Tryd.ntmps9
theorem Tw.ntmps90 : Go.Proofs.Tryd.f90.ntmps = 14 := Go.Proofs.Tryd.ntmps90
theorem Tw.ntmps91 : Go.Proofs.Tryd.f91.ntmps = 29 := Go.Proofs.Tryd.ntmps91
theorem Tw.ntmps92 : Go.Proofs.Tryd.f92.ntmps = 5 := Go.Proofs.Tryd.ntmps92
theorem Tw.ntmps93 : Go.Proofs.Tryd.f93.ntmps = 8 := Go.Proofs.Tryd.ntmps93
theorem Tw.ntmps94 : Go.Proofs.Tryd.f94.ntmps = 22 := Go.Proofs.Tryd.ntmps94
theorem Tw.ntmps95 : Go.Proofs.Tryd.f95.ntmps = 10 := Go.Proofs.Tryd.ntmps95
theorem Tw.results13 : Go.Proofs.Tryd.f13.results = #[Go.ResultVar.cell 2 43] := Go.Proofs.Tryd.results13
theorem Tw.results49 : Go.Proofs.Tryd.f49.results = #[Go.ResultVar.cell 2 75] := Go.Proofs.Tryd.results49
theorem Tw.results81 : Go.Proofs.Tryd.f81.results = #[Go.ResultVar.cell 2 100] := Go.Proofs.Tryd.results81
theorem Tw.results82 : Go.Proofs.Tryd.f82.results = #[Go.ResultVar.cell 2 75] := Go.Proofs.Tryd.results82
@[simp] theorem Tw.runUnderlying100 : ∀ (w : Go.World),   Go.Sem.run Tw.prog (Go.underlying 100) w =     Go.Result.ok       (Go.TypeDesc.struct         #[{ name := "group", type := 3, offset := 0, embedded := Bool.false, tag := "",             pkgPath := "loop.example/g00197/impl", byteOffset := 0 },           { name := "index", type := 3, offset := 1, embedded := Bool.false, tag := "",             pkgPath := "loop.example/g00197/impl", byteOffset := 8 }])       w := fun w => by kernel_rfl
@[simp] theorem Tw.runUnderlying105 : ∀ (w : Go.World), Go.Sem.run Tw.prog (Go.underlying 105) w = Go.Result.ok (Go.TypeDesc.slice 90) w := fun w => by kernel_rfl
@[simp] theorem Tw.runUnderlying33 : ∀ (w : Go.World),   Go.Sem.run Tw.prog (Go.underlying 33) w =     Go.Result.ok       (Go.TypeDesc.struct         #[{ name := "Id", type := 3, offset := 0, embedded := Bool.false, tag := "", pkgPath := "", byteOffset := 0 },           { name := "Up", type := 4, offset := 1, embedded := Bool.false, tag := "", pkgPath := "", byteOffset := 8 },           { name := "Units", type := 31, offset := 2, embedded := Bool.false, tag := "", pkgPath := "",             byteOffset := 16 }])       w := fun w => by kernel_rfl
@[simp] theorem Tw.runUnderlying34 : ∀ (w : Go.World), Go.Sem.run Tw.prog (Go.underlying 34) w = Go.Result.ok (Go.TypeDesc.slice 9) w := fun w => by kernel_rfl
@[simp] theorem Tw.runUnderlying35 : ∀ (w : Go.World), Go.Sem.run Tw.prog (Go.underlying 35) w = Go.Result.ok (Go.TypeDesc.slice 4) w := fun w => by kernel_rfl
@[simp] theorem Tw.runUnderlying43 : ∀ (w : Go.World),   Go.Sem.run Tw.prog (Go.underlying 43) w =     Go.Result.ok       (Go.TypeDesc.struct         #[{ name := "Id", type := 3, offset := 0, embedded := Bool.false, tag := "", pkgPath := "", byteOffset := 0 },           { name := "Up", type := 4, offset := 1, embedded := Bool.false, tag := "", pkgPath := "", byteOffset := 8 },           { name := "Units", type := 41, offset := 2, embedded := Bool.false, tag := "", pkgPath := "",             byteOffset := 16 }])       w := fun w => by kernel_rfl
@[simp] theorem Tw.runUnderlying50 : ∀ (w : Go.World), Go.Sem.run Tw.prog (Go.underlying 50) w = Go.Result.ok (Go.TypeDesc.slice 52) w := fun w => by kernel_rfl
@[simp] theorem Tw.runUnderlying52 : ∀ (w : Go.World), Go.Sem.run Tw.prog (Go.underlying 52) w = Go.Result.ok (Go.TypeDesc.slice 3) w := fun w => by kernel_rfl
@[simp] theorem Tw.runUnderlying58 : ∀ (w : Go.World), Go.Sem.run Tw.prog (Go.underlying 58) w = Go.Result.ok (Go.TypeDesc.slice 5) w := fun w => by kernel_rfl
@[simp] theorem Tw.runUnderlying69 : ∀ (w : Go.World),   Go.Sem.run Tw.prog (Go.underlying 69) w =     Go.Result.ok       (Go.TypeDesc.struct         #[{ name := "from", type := 3, offset := 0, embedded := Bool.false, tag := "",             pkgPath := "loop.example/g00197/impl", byteOffset := 0 },           { name := "behind", type := 3, offset := 1, embedded := Bool.false, tag := "",             pkgPath := "loop.example/g00197/impl", byteOffset := 8 },           { name := "unit", type := 3, offset := 2, embedded := Bool.false, tag := "",             pkgPath := "loop.example/g00197/impl", byteOffset := 16 },           { name := "at", type := 3, offset := 3, embedded := Bool.false, tag := "",             pkgPath := "loop.example/g00197/impl", byteOffset := 24 }])       w := fun w => by kernel_rfl
@[simp] theorem Tw.runUnderlying73 : ∀ (w : Go.World),   Go.Sem.run Tw.prog (Go.underlying 73) w =     Go.Result.ok       (Go.TypeDesc.struct         #[{ name := "Group", type := 3, offset := 0, embedded := Bool.false, tag := "", pkgPath := "",             byteOffset := 0 },           { name := "Index", type := 3, offset := 1, embedded := Bool.false, tag := "", pkgPath := "",             byteOffset := 8 },           { name := "Text", type := 9, offset := 2, embedded := Bool.false, tag := "", pkgPath := "",             byteOffset := 16 },           { name := "Sum", type := 3, offset := 3, embedded := Bool.false, tag := "", pkgPath := "",             byteOffset := 32 }])       w := fun w => by kernel_rfl
@[simp] theorem Tw.runUnderlying75 : ∀ (w : Go.World),   Go.Sem.run Tw.prog (Go.underlying 75) w =     Go.Result.ok       (Go.TypeDesc.struct         #[{ name := "Group", type := 3, offset := 0, embedded := Bool.false, tag := "", pkgPath := "",             byteOffset := 0 },           { name := "Index", type := 3, offset := 1, embedded := Bool.false, tag := "", pkgPath := "",             byteOffset := 8 },           { name := "Text", type := 9, offset := 2, embedded := Bool.false, tag := "", pkgPath := "",             byteOffset := 16 },           { name := "Sum", type := 3, offset := 3, embedded := Bool.false, tag := "", pkgPath := "",             byteOffset := 32 }])       w := fun w => by kernel_rfl
@[simp] theorem Tw.runUnderlying86 : ∀ (w : Go.World), Go.Sem.run Tw.prog (Go.underlying 86) w = Go.Result.ok (Go.TypeDesc.slice 105) w := fun w => by kernel_rfl
@[simp] theorem Tw.sizeOf0 : ∀ (w : Go.World), Go.Sem.run Tw.prog (Go.sizeOf 0) w = Go.Result.ok 1 w := fun w => by kernel_rfl
@[simp] theorem Tw.sizeOf100 : ∀ (w : Go.World), Go.Sem.run Tw.prog (Go.sizeOf 100) w = Go.Result.ok 2 w := fun w => by kernel_rfl
@[simp] theorem Tw.sizeOf105 : ∀ (w : Go.World), Go.Sem.run Tw.prog (Go.sizeOf 105) w = Go.Result.ok 1 w := fun w => by kernel_rfl
@[simp] theorem Tw.sizeOf118 : ∀ (w : Go.World), Go.Sem.run Tw.prog (Go.sizeOf 118) w = Go.Result.ok 1 w := fun w => by kernel_rfl
@[simp] theorem Tw.sizeOf3 : ∀ (w : Go.World), Go.Sem.run Tw.prog (Go.sizeOf 3) w = Go.Result.ok 1 w := fun w => by kernel_rfl
@[simp] theorem Tw.sizeOf31 : ∀ (w : Go.World), Go.Sem.run Tw.prog (Go.sizeOf 31) w = Go.Result.ok 1 w := fun w => by kernel_rfl
@[simp] theorem Tw.sizeOf33 : ∀ (w : Go.World), Go.Sem.run Tw.prog (Go.sizeOf 33) w = Go.Result.ok 3 w := fun w => by kernel_rfl
@[simp] theorem Tw.sizeOf4 : ∀ (w : Go.World), Go.Sem.run Tw.prog (Go.sizeOf 4) w = Go.Result.ok 1 w := fun w => by kernel_rfl
@[simp] theorem Tw.sizeOf41 : ∀ (w : Go.World), Go.Sem.run Tw.prog (Go.sizeOf 41) w = Go.Result.ok 1 w := fun w => by kernel_rfl
@[simp] theorem Tw.sizeOf43 : ∀ (w : Go.World), Go.Sem.run Tw.prog (Go.sizeOf 43) w = Go.Result.ok 3 w := fun w => by kernel_rfl
@[simp] theorem Tw.sizeOf5 : ∀ (w : Go.World), Go.Sem.run Tw.prog (Go.sizeOf 5) w = Go.Result.ok 1 w := fun w => by kernel_rfl
@[simp] theorem Tw.sizeOf52 : ∀ (w : Go.World), Go.Sem.run Tw.prog (Go.sizeOf 52) w = Go.Result.ok 1 w := fun w => by kernel_rfl
@[simp] theorem Tw.sizeOf58 : ∀ (w : Go.World), Go.Sem.run Tw.prog (Go.sizeOf 58) w = Go.Result.ok 1 w := fun w => by kernel_rfl
@[simp] theorem Tw.sizeOf69 : ∀ (w : Go.World), Go.Sem.run Tw.prog (Go.sizeOf 69) w = Go.Result.ok 4 w := fun w => by kernel_rfl
@[simp] theorem Tw.sizeOf73 : ∀ (w : Go.World), Go.Sem.run Tw.prog (Go.sizeOf 73) w = Go.Result.ok 4 w := fun w => by kernel_rfl
@[simp] theorem Tw.sizeOf75 : ∀ (w : Go.World), Go.Sem.run Tw.prog (Go.sizeOf 75) w = Go.Result.ok 4 w := fun w => by kernel_rfl
@[simp] theorem Tw.sizeOf9 : ∀ (w : Go.World), Go.Sem.run Tw.prog (Go.sizeOf 9) w = Go.Result.ok 1 w := fun w => by kernel_rfl
@[simp] theorem Tw.sizeOf90 : ∀ (w : Go.World), Go.Sem.run Tw.prog (Go.sizeOf 90) w = Go.Result.ok 1 w := fun w => by kernel_rfl
@[simp] theorem Tw.sizeOf95 : ∀ (w : Go.World), Go.Sem.run Tw.prog (Go.sizeOf 95) w = Go.Result.ok 1 w := fun w => by kernel_rfl
@[simp] theorem Tw.underlying0 : Tw.prog.underlying 0 = Option.some (Go.TypeDesc.tuple #[]) := by kernel_rfl
@[simp] theorem Tw.underlying100 : Tw.prog.underlying 100 =   Option.some     (Go.TypeDesc.struct       #[{ name := "group", type := 3, offset := 0, embedded := Bool.false, tag := "",           pkgPath := "loop.example/g00197/impl", byteOffset := 0 },         { name := "index", type := 3, offset := 1, embedded := Bool.false, tag := "",           pkgPath := "loop.example/g00197/impl", byteOffset := 8 }]) := by kernel_rfl
@[simp] theorem Tw.underlying105 : Tw.prog.underlying 105 = Option.some (Go.TypeDesc.slice 90) := by kernel_rfl
@[simp] theorem Tw.underlying118 : Tw.prog.underlying 118 = Option.some (Go.TypeDesc.pointer 5) := by kernel_rfl
@[simp] theorem Tw.underlying122 : Tw.prog.underlying 122 = Option.some (Go.TypeDesc.int Go.IntKind.u32) := by kernel_rfl
@[simp] theorem Tw.underlying125 : Tw.prog.underlying 125 = Option.some (Go.TypeDesc.array 16 95) := by kernel_rfl
@[simp] theorem Tw.underlying22 : Tw.prog.underlying 22 = Option.some (Go.TypeDesc.slice 33) := by kernel_rfl
@[simp] theorem Tw.underlying26 : Tw.prog.underlying 26 = Option.some (Go.TypeDesc.slice 43) := by kernel_rfl
@[simp] theorem Tw.underlying3 : Tw.prog.underlying 3 = Option.some (Go.TypeDesc.int Go.IntKind.i64) := by kernel_rfl
@[simp] theorem Tw.underlying31 : Tw.prog.underlying 31 = Option.some (Go.TypeDesc.slice 73) := by kernel_rfl
@[simp] theorem Tw.underlying34 : Tw.prog.underlying 34 = Option.some (Go.TypeDesc.slice 9) := by kernel_rfl
@[simp] theorem Tw.underlying35 : Tw.prog.underlying 35 = Option.some (Go.TypeDesc.slice 4) := by kernel_rfl
@[simp] theorem Tw.underlying4 : Tw.prog.underlying 4 = Option.some Go.TypeDesc.bool := by kernel_rfl
@[simp] theorem Tw.underlying41 : Tw.prog.underlying 41 = Option.some (Go.TypeDesc.slice 75) := by kernel_rfl
@[simp] theorem Tw.underlying5 : Tw.prog.underlying 5 = Option.some (Go.TypeDesc.int Go.IntKind.u8) := by kernel_rfl
@[simp] theorem Tw.underlying50 : Tw.prog.underlying 50 = Option.some (Go.TypeDesc.slice 52) := by kernel_rfl
@[simp] theorem Tw.underlying52 : Tw.prog.underlying 52 = Option.some (Go.TypeDesc.slice 3) := by kernel_rfl
@[simp] theorem Tw.underlying58 : Tw.prog.underlying 58 = Option.some (Go.TypeDesc.slice 5) := by kernel_rfl
@[simp] theorem Tw.underlying66 : Tw.prog.underlying 66 = Option.some (Go.TypeDesc.chan Go.ChanDir.recv 69) := by kernel_rfl
@[simp] theorem Tw.underlying75 : Tw.prog.underlying 75 =   Option.some     (Go.TypeDesc.struct       #[{ name := "Group", type := 3, offset := 0, embedded := Bool.false, tag := "", pkgPath := "", byteOffset := 0 },         { name := "Index", type := 3, offset := 1, embedded := Bool.false, tag := "", pkgPath := "", byteOffset := 8 },         { name := "Text", type := 9, offset := 2, embedded := Bool.false, tag := "", pkgPath := "", byteOffset := 16 },         { name := "Sum", type := 3, offset := 3, embedded := Bool.false, tag := "", pkgPath := "", byteOffset := 32 }]) := by kernel_rfl
@[simp] theorem Tw.underlying86 : Tw.prog.underlying 86 = Option.some (Go.TypeDesc.slice 105) := by kernel_rfl
@[simp] theorem Tw.underlying9 : Tw.prog.underlying 9 = Option.some Go.TypeDesc.string := by kernel_rfl
@[simp] theorem Tw.underlying90 : Tw.prog.underlying 90 = Option.some (Go.TypeDesc.int Go.IntKind.u8) := by kernel_rfl
@[simp] theorem Tw.underlying95 : Tw.prog.underlying 95 = Option.some (Go.TypeDesc.int Go.IntKind.u32) := by kernel_rfl
@[simp] theorem Tw.zeroValue0 : ∀ (w : Go.World), Go.Sem.run Tw.prog (Go.zeroValue 0) w = Go.Result.ok (Go.Value.tuple #[]) w := fun w => by kernel_rfl
@[simp] theorem Tw.zeroValue100 : ∀ (w : Go.World),   Go.Sem.run Tw.prog (Go.zeroValue 100) w =     Go.Result.ok (Go.Value.agg #[Go.Value.int Go.IntKind.i64 0, Go.Value.int Go.IntKind.i64 0]) w := fun w => by kernel_rfl
@[simp] theorem Tw.zeroValue105 : ∀ (w : Go.World), Go.Sem.run Tw.prog (Go.zeroValue 105) w = Go.Result.ok (Go.Value.slice Option.none 0 0) w := fun w => by kernel_rfl
@[simp] theorem Tw.zeroValue118 : ∀ (w : Go.World), Go.Sem.run Tw.prog (Go.zeroValue 118) w = Go.Result.ok (Go.Value.pointer Option.none) w := fun w => by kernel_rfl
@[simp] theorem Tw.zeroValue3 : ∀ (w : Go.World), Go.Sem.run Tw.prog (Go.zeroValue 3) w = Go.Result.ok (Go.Value.int Go.IntKind.i64 0) w := fun w => by kernel_rfl
@[simp] theorem Tw.zeroValue4 : ∀ (w : Go.World), Go.Sem.run Tw.prog (Go.zeroValue 4) w = Go.Result.ok (Go.Value.bool Bool.false) w := fun w => by kernel_rfl
@[simp] theorem Tw.zeroValue43 : ∀ (w : Go.World),   Go.Sem.run Tw.prog (Go.zeroValue 43) w =     Go.Result.ok       (Go.Value.agg #[Go.Value.int Go.IntKind.i64 0, Go.Value.bool Bool.false, Go.Value.slice Option.none 0 0]) w := fun w => by kernel_rfl
@[simp] theorem Tw.zeroValue5 : ∀ (w : Go.World), Go.Sem.run Tw.prog (Go.zeroValue 5) w = Go.Result.ok (Go.Value.int Go.IntKind.u8 0) w := fun w => by kernel_rfl
@[simp] theorem Tw.zeroValue52 : ∀ (w : Go.World), Go.Sem.run Tw.prog (Go.zeroValue 52) w = Go.Result.ok (Go.Value.slice Option.none 0 0) w := fun w => by kernel_rfl
@[simp] theorem Tw.zeroValue58 : ∀ (w : Go.World), Go.Sem.run Tw.prog (Go.zeroValue 58) w = Go.Result.ok (Go.Value.slice Option.none 0 0) w := fun w => by kernel_rfl
@[simp] theorem Tw.zeroValue69 : ∀ (w : Go.World),   Go.Sem.run Tw.prog (Go.zeroValue 69) w =     Go.Result.ok       (Go.Value.agg         #[Go.Value.int Go.IntKind.i64 0, Go.Value.int Go.IntKind.i64 0, Go.Value.int Go.IntKind.i64 0,           Go.Value.int Go.IntKind.i64 0])       w := fun w => by kernel_rfl
@[simp] theorem Tw.zeroValue75 : ∀ (w : Go.World),   Go.Sem.run Tw.prog (Go.zeroValue 75) w =     Go.Result.ok       (Go.Value.agg         #[Go.Value.int Go.IntKind.i64 0, Go.Value.int Go.IntKind.i64 0, Go.Value.string { data := #[] },           Go.Value.int Go.IntKind.i64 0])       w := fun w => by kernel_rfl
@[simp] theorem Tw.zeroValue9 : ∀ (w : Go.World), Go.Sem.run Tw.prog (Go.zeroValue 9) w = Go.Result.ok (Go.Value.string { data := #[] }) w := fun w => by kernel_rfl
@[simp] theorem Tw.zeroValue90 : ∀ (w : Go.World), Go.Sem.run Tw.prog (Go.zeroValue 90) w = Go.Result.ok (Go.Value.int Go.IntKind.u8 0) w := fun w => by kernel_rfl
end Go.Proofs
/- Rows of bytes that a call owns, and the string that is made of one: facts for the walks of this seat. -/
namespace Go.Proofs.YtbkimmbfepjodaaDoorT
set_option maxRecDepth 100000
open Go.RowKit

/-- Bytes as the cells of a row. -/
def bv (l : List UInt8) : List Value := l.map fun b => .int .u8 (b.toNat : Int)
theorem Tw.info5 : (Tw.prog.info? 5).map (fun i => (i.zero, i.size, i.bytes)) = some (some (.int .u8 0), 1, 1) := by kernel_rfl

/-- The string of a row of bytes that a call owns. -/
theorem own_string {w : World} {base : Nat} {v : Value} {l : List UInt8} (h : w.ownsRow base 5 1 v l.length (bv l)) :
    (convert 58 9 v).run Tw.prog w = .ok (.string ⟨l.toArray⟩) w := by
  have hc : ∀ g, v.ownBlock = some g → ∀ j u, (bv l)[j]? = some u → w.cell? ((⟨g, 0, none⟩ : Addr).add j) = some u := fun g hg => h.cells hg
  obtain ⟨h1, ⟨rfl, h0⟩ | ⟨g, cap, cur, rfl, _⟩⟩ := h
  · have : l = [] := List.eq_nil_of_length_eq_zero h0
    subst this
    exact run_convert_bytes_nil _ 58 5 Tw.underlying58 Tw.underlying5 0 0 _ Tw.underlying9
  · exact run_convert_bytes_back w 58 9 5 ⟨g, 0, none⟩ cap l Tw.underlying58 Tw.underlying5 Tw.underlying9 (fun j hj => hc g rfl j _ (by simp [bv, hj]))

end Go.Proofs.YtbkimmbfepjodaaDoorT
