/- Texts of ours, laid one behind the other: TRows, TBytes. -/
import Derived.Test.YteaieagkjepgiaaGreatDoorPfM12
import Derived.WalkKit
import Derived.WalkLawsBesides
import Derived.Handy
import Derived.Below
import Derived.Laws.IdiomStrings
import Derived.Laws.BytesArg
import Derived.Maps.AppendAt
import Derived.Laws.DeepStrings4
set_option linter.unusedVariables false
set_option linter.unusedSimpArgs false
/- . -/
set_option maxRecDepth 100000
namespace Go.Proofs
open Go
noncomputable def Tw.prog:Go.Program:=Go.Proofs.YteaieagkjepgiaaGreatDoor.tw
@[simp] theorem Tw.call10:∀ (args:Array Go.Value) (w:Go.World),  Go.Sem.run Tw.prog (Go.callFunc 10 args) w=Go.Result.ok (Go.Next.enter 10 args) w:=fun args w=>by kernel_rfl
@[simp] theorem Tw.call100:∀ (args:Array Go.Value) (w:Go.World),  Go.Sem.run Tw.prog (Go.callFunc 100 args) w=Go.Result.ok (Go.Next.enter 100 args) w:=fun args w=>by kernel_rfl
@[simp] theorem Tw.call101:∀ (args:Array Go.Value) (w:Go.World),  Go.Sem.run Tw.prog (Go.callFunc 101 args) w=Go.Result.ok (Go.Next.enter 101 args) w:=fun args w=>by kernel_rfl
@[simp] theorem Tw.call102:∀ (args:Array Go.Value) (w:Go.World),  Go.Sem.run Tw.prog (Go.callFunc 102 args) w=Go.Result.ok (Go.Next.enter 102 args) w:=fun args w=>by kernel_rfl
@[simp] theorem Tw.call103:∀ (args:Array Go.Value) (w:Go.World),  Go.Sem.run Tw.prog (Go.callFunc 103 args) w=Go.Result.ok (Go.Next.enter 103 args) w:=fun args w=>by kernel_rfl
@[simp] theorem Tw.call104:∀ (args:Array Go.Value) (w:Go.World),  Go.Sem.run Tw.prog (Go.callFunc 104 args) w=Go.Result.ok (Go.Next.enter 104 args) w:=fun args w=>by kernel_rfl
@[simp] theorem Tw.call105:∀ (args:Array Go.Value) (w:Go.World),  Go.Sem.run Tw.prog (Go.callFunc 105 args) w=Go.Result.ok (Go.Next.enter 105 args) w:=fun args w=>by kernel_rfl
@[simp] theorem Tw.call106:∀ (args:Array Go.Value) (w:Go.World),  Go.Sem.run Tw.prog (Go.callFunc 106 args) w=Go.Result.ok (Go.Next.enter 106 args) w:=fun args w=>by kernel_rfl
@[simp] theorem Tw.call107:∀ (args:Array Go.Value) (w:Go.World),  Go.Sem.run Tw.prog (Go.callFunc 107 args) w=Go.Result.ok (Go.Next.enter 107 args) w:=fun args w=>by kernel_rfl
@[simp] theorem Tw.call108:∀ (args:Array Go.Value) (w:Go.World),  Go.Sem.run Tw.prog (Go.callFunc 108 args) w=Go.Result.ok (Go.Next.enter 108 args) w:=fun args w=>by kernel_rfl
@[simp] theorem Tw.call11:∀ (args:Array Go.Value) (w:Go.World),  Go.Sem.run Tw.prog (Go.callFunc 11 args) w=Go.Result.ok (Go.Next.enter 11 args) w:=fun args w=>by kernel_rfl
@[simp] theorem Tw.call12:∀ (args:Array Go.Value) (w:Go.World),  Go.Sem.run Tw.prog (Go.callFunc 12 args) w=Go.Result.ok (Go.Next.enter 12 args) w:=fun args w=>by kernel_rfl
@[simp] theorem Tw.call128:∀ (args:Array Go.Value) (w:Go.World),  Go.Sem.run Tw.prog (Go.callFunc 128 args) w=Go.Result.ok (Go.Next.enter 128 args) w:=fun args w=>by kernel_rfl
@[simp] theorem Tw.call129:∀ (args:Array Go.Value) (w:Go.World),  Go.Sem.run Tw.prog (Go.callFunc 129 args) w=Go.Result.ok (Go.Next.enter 129 args) w:=fun args w=>by kernel_rfl
@[simp] theorem Tw.call13:∀ (args:Array Go.Value) (w:Go.World),  Go.Sem.run Tw.prog (Go.callFunc 13 args) w=Go.Result.ok (Go.Next.enter 13 args) w:=fun args w=>by kernel_rfl
@[simp] theorem Tw.call130:∀ (args:Array Go.Value) (w:Go.World),  Go.Sem.run Tw.prog (Go.callFunc 130 args) w=Go.Result.ok (Go.Next.enter 130 args) w:=fun args w=>by kernel_rfl
@[simp] theorem Tw.call131:∀ (args:Array Go.Value) (w:Go.World),  Go.Sem.run Tw.prog (Go.callFunc 131 args) w=Go.Result.ok (Go.Next.enter 131 args) w:=fun args w=>by kernel_rfl
@[simp] theorem Tw.call132:∀ (args:Array Go.Value) (w:Go.World),  Go.Sem.run Tw.prog (Go.callFunc 132 args) w=Go.Result.ok (Go.Next.enter 132 args) w:=fun args w=>by kernel_rfl
@[simp] theorem Tw.call133:∀ (args:Array Go.Value) (w:Go.World),  Go.Sem.run Tw.prog (Go.callFunc 133 args) w=Go.Result.ok (Go.Next.enter 133 args) w:=fun args w=>by kernel_rfl
@[simp] theorem Tw.call14:∀ (args:Array Go.Value) (w:Go.World),  Go.Sem.run Tw.prog (Go.callFunc 14 args) w=Go.Result.ok (Go.Next.enter 14 args) w:=fun args w=>by kernel_rfl
@[simp] theorem Tw.call15:∀ (args:Array Go.Value) (w:Go.World),  Go.Sem.run Tw.prog (Go.callFunc 15 args) w=Go.Result.ok (Go.Next.enter 15 args) w:=fun args w=>by kernel_rfl
@[simp] theorem Tw.call16:∀ (args:Array Go.Value) (w:Go.World),  Go.Sem.run Tw.prog (Go.callFunc 16 args) w=Go.Result.ok (Go.Next.enter 16 args) w:=fun args w=>by kernel_rfl
@[simp] theorem Tw.call17:∀ (args:Array Go.Value) (w:Go.World),  Go.Sem.run Tw.prog (Go.callFunc 17 args) w=Go.Result.ok (Go.Next.enter 17 args) w:=fun args w=>by kernel_rfl
@[simp] theorem Tw.call18:∀ (args:Array Go.Value) (w:Go.World),  Go.Sem.run Tw.prog (Go.callFunc 18 args) w=Go.Result.ok (Go.Next.enter 18 args) w:=fun args w=>by kernel_rfl
@[simp] theorem Tw.call19:∀ (args:Array Go.Value) (w:Go.World),  Go.Sem.run Tw.prog (Go.callFunc 19 args) w=Go.Result.ok (Go.Next.enter 19 args) w:=fun args w=>by kernel_rfl
@[simp] theorem Tw.call20:∀ (args:Array Go.Value) (w:Go.World),  Go.Sem.run Tw.prog (Go.callFunc 20 args) w=Go.Result.ok (Go.Next.enter 20 args) w:=fun args w=>by kernel_rfl
@[simp] theorem Tw.call21:∀ (args:Array Go.Value) (w:Go.World),  Go.Sem.run Tw.prog (Go.callFunc 21 args) w=Go.Result.ok (Go.Next.enter 21 args) w:=fun args w=>by kernel_rfl
@[simp] theorem Tw.call22:∀ (args:Array Go.Value) (w:Go.World),  Go.Sem.run Tw.prog (Go.callFunc 22 args) w=Go.Result.ok (Go.Next.enter 22 args) w:=fun args w=>by kernel_rfl
@[simp] theorem Tw.call23:∀ (args:Array Go.Value) (w:Go.World),  Go.Sem.run Tw.prog (Go.callFunc 23 args) w=Go.Result.ok (Go.Next.enter 23 args) w:=fun args w=>by kernel_rfl
@[simp] theorem Tw.call24:∀ (args:Array Go.Value) (w:Go.World),  Go.Sem.run Tw.prog (Go.callFunc 24 args) w=Go.Result.ok (Go.Next.enter 24 args) w:=fun args w=>by kernel_rfl
@[simp] theorem Tw.call25:∀ (args:Array Go.Value) (w:Go.World),  Go.Sem.run Tw.prog (Go.callFunc 25 args) w=Go.Result.ok (Go.Next.enter 25 args) w:=fun args w=>by kernel_rfl
@[simp] theorem Tw.call26:∀ (args:Array Go.Value) (w:Go.World),  Go.Sem.run Tw.prog (Go.callFunc 26 args) w=Go.Result.ok (Go.Next.enter 26 args) w:=fun args w=>by kernel_rfl
@[simp] theorem Tw.call27:∀ (args:Array Go.Value) (w:Go.World),  Go.Sem.run Tw.prog (Go.callFunc 27 args) w=Go.Result.ok (Go.Next.enter 27 args) w:=fun args w=>by kernel_rfl
@[simp] theorem Tw.call28:∀ (args:Array Go.Value) (w:Go.World),  Go.Sem.run Tw.prog (Go.callFunc 28 args) w=Go.Result.ok (Go.Next.enter 28 args) w:=fun args w=>by kernel_rfl
@[simp] theorem Tw.call29:∀ (args:Array Go.Value) (w:Go.World),  Go.Sem.run Tw.prog (Go.callFunc 29 args) w=Go.Result.ok (Go.Next.enter 29 args) w:=fun args w=>by kernel_rfl
@[simp] theorem Tw.call30:∀ (args:Array Go.Value) (w:Go.World),  Go.Sem.run Tw.prog (Go.callFunc 30 args) w=Go.Result.ok (Go.Next.enter 30 args) w:=fun args w=>by kernel_rfl
@[simp] theorem Tw.call31:∀ (args:Array Go.Value) (w:Go.World),  Go.Sem.run Tw.prog (Go.callFunc 31 args) w=Go.Result.ok (Go.Next.enter 31 args) w:=fun args w=>by kernel_rfl
@[simp] theorem Tw.call32:∀ (args:Array Go.Value) (w:Go.World),  Go.Sem.run Tw.prog (Go.callFunc 32 args) w=Go.Result.ok (Go.Next.enter 32 args) w:=fun args w=>by kernel_rfl
@[simp] theorem Tw.call33:∀ (args:Array Go.Value) (w:Go.World),  Go.Sem.run Tw.prog (Go.callFunc 33 args) w=Go.Result.ok (Go.Next.enter 33 args) w:=fun args w=>by kernel_rfl
@[simp] theorem Tw.call34:∀ (args:Array Go.Value) (w:Go.World),  Go.Sem.run Tw.prog (Go.callFunc 34 args) w=Go.Result.ok (Go.Next.enter 34 args) w:=fun args w=>by kernel_rfl
@[simp] theorem Tw.call35:∀ (args:Array Go.Value) (w:Go.World),  Go.Sem.run Tw.prog (Go.callFunc 35 args) w=Go.Result.ok (Go.Next.enter 35 args) w:=fun args w=>by kernel_rfl
@[simp] theorem Tw.call36:∀ (args:Array Go.Value) (w:Go.World),  Go.Sem.run Tw.prog (Go.callFunc 36 args) w=Go.Result.ok (Go.Next.enter 36 args) w:=fun args w=>by kernel_rfl
@[simp] theorem Tw.call37:∀ (args:Array Go.Value) (w:Go.World),  Go.Sem.run Tw.prog (Go.callFunc 37 args) w=Go.Result.ok (Go.Next.enter 37 args) w:=fun args w=>by kernel_rfl
@[simp] theorem Tw.call38:∀ (args:Array Go.Value) (w:Go.World),  Go.Sem.run Tw.prog (Go.callFunc 38 args) w=Go.Result.ok (Go.Next.enter 38 args) w:=fun args w=>by kernel_rfl
@[simp] theorem Tw.call39:∀ (args:Array Go.Value) (w:Go.World),  Go.Sem.run Tw.prog (Go.callFunc 39 args) w=Go.Result.ok (Go.Next.enter 39 args) w:=fun args w=>by kernel_rfl
@[simp] theorem Tw.call4:∀ (args:Array Go.Value) (w:Go.World),  Go.Sem.run Tw.prog (Go.callFunc 4 args) w=Go.Result.ok (Go.Next.enter 4 args) w:=fun args w=>by kernel_rfl
@[simp] theorem Tw.call40:∀ (args:Array Go.Value) (w:Go.World),  Go.Sem.run Tw.prog (Go.callFunc 40 args) w=Go.Result.ok (Go.Next.enter 40 args) w:=fun args w=>by kernel_rfl
@[simp] theorem Tw.call41:∀ (args:Array Go.Value) (w:Go.World),  Go.Sem.run Tw.prog (Go.callFunc 41 args) w=Go.Result.ok (Go.Next.enter 41 args) w:=fun args w=>by kernel_rfl
@[simp] theorem Tw.call42:∀ (args:Array Go.Value) (w:Go.World),  Go.Sem.run Tw.prog (Go.callFunc 42 args) w=Go.Result.ok (Go.Next.enter 42 args) w:=fun args w=>by kernel_rfl
@[simp] theorem Tw.call43:∀ (args:Array Go.Value) (w:Go.World),  Go.Sem.run Tw.prog (Go.callFunc 43 args) w=Go.Result.ok (Go.Next.enter 43 args) w:=fun args w=>by kernel_rfl
@[simp] theorem Tw.call44:∀ (args:Array Go.Value) (w:Go.World),  Go.Sem.run Tw.prog (Go.callFunc 44 args) w=Go.Result.ok (Go.Next.enter 44 args) w:=fun args w=>by kernel_rfl
@[simp] theorem Tw.call45:∀ (args:Array Go.Value) (w:Go.World),  Go.Sem.run Tw.prog (Go.callFunc 45 args) w=Go.Result.ok (Go.Next.enter 45 args) w:=fun args w=>by kernel_rfl
@[simp] theorem Tw.call46:∀ (args:Array Go.Value) (w:Go.World),  Go.Sem.run Tw.prog (Go.callFunc 46 args) w=Go.Result.ok (Go.Next.enter 46 args) w:=fun args w=>by kernel_rfl
@[simp] theorem Tw.call47:∀ (args:Array Go.Value) (w:Go.World),  Go.Sem.run Tw.prog (Go.callFunc 47 args) w=Go.Result.ok (Go.Next.enter 47 args) w:=fun args w=>by kernel_rfl
@[simp] theorem Tw.call48:∀ (args:Array Go.Value) (w:Go.World),  Go.Sem.run Tw.prog (Go.callFunc 48 args) w=Go.Result.ok (Go.Next.enter 48 args) w:=fun args w=>by kernel_rfl
@[simp] theorem Tw.call49:∀ (args:Array Go.Value) (w:Go.World),  Go.Sem.run Tw.prog (Go.callFunc 49 args) w=Go.Result.ok (Go.Next.enter 49 args) w:=fun args w=>by kernel_rfl
@[simp] theorem Tw.call5:∀ (args:Array Go.Value) (w:Go.World),  Go.Sem.run Tw.prog (Go.callFunc 5 args) w=Go.Result.ok (Go.Next.enter 5 args) w:=fun args w=>by kernel_rfl
@[simp] theorem Tw.call50:∀ (args:Array Go.Value) (w:Go.World),  Go.Sem.run Tw.prog (Go.callFunc 50 args) w=Go.Result.ok (Go.Next.enter 50 args) w:=fun args w=>by kernel_rfl
@[simp] theorem Tw.call51:∀ (args:Array Go.Value) (w:Go.World),  Go.Sem.run Tw.prog (Go.callFunc 51 args) w=Go.Result.ok (Go.Next.enter 51 args) w:=fun args w=>by kernel_rfl
@[simp] theorem Tw.call52:∀ (args:Array Go.Value) (w:Go.World),  Go.Sem.run Tw.prog (Go.callFunc 52 args) w=Go.Result.ok (Go.Next.enter 52 args) w:=fun args w=>by kernel_rfl
@[simp] theorem Tw.call53:∀ (args:Array Go.Value) (w:Go.World),  Go.Sem.run Tw.prog (Go.callFunc 53 args) w=Go.Result.ok (Go.Next.enter 53 args) w:=fun args w=>by kernel_rfl
@[simp] theorem Tw.call54:∀ (args:Array Go.Value) (w:Go.World),  Go.Sem.run Tw.prog (Go.callFunc 54 args) w=Go.Result.ok (Go.Next.enter 54 args) w:=fun args w=>by kernel_rfl
@[simp] theorem Tw.call55:∀ (args:Array Go.Value) (w:Go.World),  Go.Sem.run Tw.prog (Go.callFunc 55 args) w=Go.Result.ok (Go.Next.enter 55 args) w:=fun args w=>by kernel_rfl
@[simp] theorem Tw.call56:∀ (args:Array Go.Value) (w:Go.World),  Go.Sem.run Tw.prog (Go.callFunc 56 args) w=Go.Result.ok (Go.Next.enter 56 args) w:=fun args w=>by kernel_rfl
@[simp] theorem Tw.call57:∀ (args:Array Go.Value) (w:Go.World),  Go.Sem.run Tw.prog (Go.callFunc 57 args) w=Go.Result.ok (Go.Next.enter 57 args) w:=fun args w=>by kernel_rfl
@[simp] theorem Tw.call58:∀ (args:Array Go.Value) (w:Go.World),  Go.Sem.run Tw.prog (Go.callFunc 58 args) w=Go.Result.ok (Go.Next.enter 58 args) w:=fun args w=>by kernel_rfl
@[simp] theorem Tw.call59:∀ (args:Array Go.Value) (w:Go.World),  Go.Sem.run Tw.prog (Go.callFunc 59 args) w=Go.Result.ok (Go.Next.enter 59 args) w:=fun args w=>by kernel_rfl
@[simp] theorem Tw.call6:∀ (args:Array Go.Value) (w:Go.World),  Go.Sem.run Tw.prog (Go.callFunc 6 args) w=Go.Result.ok (Go.Next.enter 6 args) w:=fun args w=>by kernel_rfl
@[simp] theorem Tw.call60:∀ (args:Array Go.Value) (w:Go.World),  Go.Sem.run Tw.prog (Go.callFunc 60 args) w=Go.Result.ok (Go.Next.enter 60 args) w:=fun args w=>by kernel_rfl
@[simp] theorem Tw.call61:∀ (args:Array Go.Value) (w:Go.World),  Go.Sem.run Tw.prog (Go.callFunc 61 args) w=Go.Result.ok (Go.Next.enter 61 args) w:=fun args w=>by kernel_rfl
@[simp] theorem Tw.call62:∀ (args:Array Go.Value) (w:Go.World),  Go.Sem.run Tw.prog (Go.callFunc 62 args) w=Go.Result.ok (Go.Next.enter 62 args) w:=fun args w=>by kernel_rfl
@[simp] theorem Tw.call63:∀ (args:Array Go.Value) (w:Go.World),  Go.Sem.run Tw.prog (Go.callFunc 63 args) w=Go.Result.ok (Go.Next.enter 63 args) w:=fun args w=>by kernel_rfl
@[simp] theorem Tw.call64:∀ (args:Array Go.Value) (w:Go.World),  Go.Sem.run Tw.prog (Go.callFunc 64 args) w=Go.Result.ok (Go.Next.enter 64 args) w:=fun args w=>by kernel_rfl
@[simp] theorem Tw.call65:∀ (args:Array Go.Value) (w:Go.World),  Go.Sem.run Tw.prog (Go.callFunc 65 args) w=Go.Result.ok (Go.Next.enter 65 args) w:=fun args w=>by kernel_rfl
@[simp] theorem Tw.call66:∀ (args:Array Go.Value) (w:Go.World),  Go.Sem.run Tw.prog (Go.callFunc 66 args) w=Go.Result.ok (Go.Next.enter 66 args) w:=fun args w=>by kernel_rfl
@[simp] theorem Tw.call68:∀ (args:Array Go.Value) (w:Go.World),  Go.Sem.run Tw.prog (Go.callFunc 68 args) w=Go.Result.ok (Go.Next.enter 68 args) w:=fun args w=>by kernel_rfl
@[simp] theorem Tw.call69:∀ (args:Array Go.Value) (w:Go.World),  Go.Sem.run Tw.prog (Go.callFunc 69 args) w=Go.Result.ok (Go.Next.enter 69 args) w:=fun args w=>by kernel_rfl
@[simp] theorem Tw.call7:∀ (args:Array Go.Value) (w:Go.World),  Go.Sem.run Tw.prog (Go.callFunc 7 args) w=Go.Result.ok (Go.Next.enter 7 args) w:=fun args w=>by kernel_rfl
@[simp] theorem Tw.call70:∀ (args:Array Go.Value) (w:Go.World),  Go.Sem.run Tw.prog (Go.callFunc 70 args) w=Go.Result.ok (Go.Next.enter 70 args) w:=fun args w=>by kernel_rfl
@[simp] theorem Tw.call71:∀ (args:Array Go.Value) (w:Go.World),  Go.Sem.run Tw.prog (Go.callFunc 71 args) w=Go.Result.ok (Go.Next.enter 71 args) w:=fun args w=>by kernel_rfl
@[simp] theorem Tw.call72:∀ (args:Array Go.Value) (w:Go.World),  Go.Sem.run Tw.prog (Go.callFunc 72 args) w=Go.Result.ok (Go.Next.enter 72 args) w:=fun args w=>by kernel_rfl
@[simp] theorem Tw.call73:∀ (args:Array Go.Value) (w:Go.World),  Go.Sem.run Tw.prog (Go.callFunc 73 args) w=Go.Result.ok (Go.Next.enter 73 args) w:=fun args w=>by kernel_rfl
@[simp] theorem Tw.call74:∀ (args:Array Go.Value) (w:Go.World),  Go.Sem.run Tw.prog (Go.callFunc 74 args) w=Go.Result.ok (Go.Next.enter 74 args) w:=fun args w=>by kernel_rfl
@[simp] theorem Tw.call75:∀ (args:Array Go.Value) (w:Go.World),  Go.Sem.run Tw.prog (Go.callFunc 75 args) w=Go.Result.ok (Go.Next.enter 75 args) w:=fun args w=>by kernel_rfl
@[simp] theorem Tw.call76:∀ (args:Array Go.Value) (w:Go.World),  Go.Sem.run Tw.prog (Go.callFunc 76 args) w=Go.Result.ok (Go.Next.enter 76 args) w:=fun args w=>by kernel_rfl
@[simp] theorem Tw.call77:∀ (args:Array Go.Value) (w:Go.World),  Go.Sem.run Tw.prog (Go.callFunc 77 args) w=Go.Result.ok (Go.Next.enter 77 args) w:=fun args w=>by kernel_rfl
@[simp] theorem Tw.call78:∀ (args:Array Go.Value) (w:Go.World),  Go.Sem.run Tw.prog (Go.callFunc 78 args) w=Go.Result.ok (Go.Next.enter 78 args) w:=fun args w=>by kernel_rfl
@[simp] theorem Tw.call79:∀ (args:Array Go.Value) (w:Go.World),  Go.Sem.run Tw.prog (Go.callFunc 79 args) w=Go.Result.ok (Go.Next.enter 79 args) w:=fun args w=>by kernel_rfl
@[simp] theorem Tw.call8:∀ (args:Array Go.Value) (w:Go.World),  Go.Sem.run Tw.prog (Go.callFunc 8 args) w=Go.Result.ok (Go.Next.enter 8 args) w:=fun args w=>by kernel_rfl
@[simp] theorem Tw.call80:∀ (args:Array Go.Value) (w:Go.World),  Go.Sem.run Tw.prog (Go.callFunc 80 args) w=Go.Result.ok (Go.Next.enter 80 args) w:=fun args w=>by kernel_rfl
@[simp] theorem Tw.call81:∀ (args:Array Go.Value) (w:Go.World),  Go.Sem.run Tw.prog (Go.callFunc 81 args) w=Go.Result.ok (Go.Next.enter 81 args) w:=fun args w=>by kernel_rfl
@[simp] theorem Tw.call82:∀ (args:Array Go.Value) (w:Go.World),  Go.Sem.run Tw.prog (Go.callFunc 82 args) w=Go.Result.ok (Go.Next.enter 82 args) w:=fun args w=>by kernel_rfl
@[simp] theorem Tw.call83:∀ (args:Array Go.Value) (w:Go.World),  Go.Sem.run Tw.prog (Go.callFunc 83 args) w=Go.Result.ok (Go.Next.enter 83 args) w:=fun args w=>by kernel_rfl
@[simp] theorem Tw.call85:∀ (args:Array Go.Value) (w:Go.World),  Go.Sem.run Tw.prog (Go.callFunc 85 args) w=Go.Result.ok (Go.Next.enter 85 args) w:=fun args w=>by kernel_rfl
@[simp] theorem Tw.call86:∀ (args:Array Go.Value) (w:Go.World),  Go.Sem.run Tw.prog (Go.callFunc 86 args) w=Go.Result.ok (Go.Next.enter 86 args) w:=fun args w=>by kernel_rfl
@[simp] theorem Tw.call87:∀ (args:Array Go.Value) (w:Go.World),  Go.Sem.run Tw.prog (Go.callFunc 87 args) w=Go.Result.ok (Go.Next.enter 87 args) w:=fun args w=>by kernel_rfl
@[simp] theorem Tw.call88:∀ (args:Array Go.Value) (w:Go.World),  Go.Sem.run Tw.prog (Go.callFunc 88 args) w=Go.Result.ok (Go.Next.enter 88 args) w:=fun args w=>by kernel_rfl
@[simp] theorem Tw.call89:∀ (args:Array Go.Value) (w:Go.World),  Go.Sem.run Tw.prog (Go.callFunc 89 args) w=Go.Result.ok (Go.Next.enter 89 args) w:=fun args w=>by kernel_rfl
@[simp] theorem Tw.call9:∀ (args:Array Go.Value) (w:Go.World),  Go.Sem.run Tw.prog (Go.callFunc 9 args) w=Go.Result.ok (Go.Next.enter 9 args) w:=fun args w=>by kernel_rfl
@[simp] theorem Tw.call90:∀ (args:Array Go.Value) (w:Go.World),  Go.Sem.run Tw.prog (Go.callFunc 90 args) w=Go.Result.ok (Go.Next.enter 90 args) w:=fun args w=>by kernel_rfl
@[simp] theorem Tw.call91:∀ (args:Array Go.Value) (w:Go.World),  Go.Sem.run Tw.prog (Go.callFunc 91 args) w=Go.Result.ok (Go.Next.enter 91 args) w:=fun args w=>by kernel_rfl
@[simp] theorem Tw.call92:∀ (args:Array Go.Value) (w:Go.World),  Go.Sem.run Tw.prog (Go.callFunc 92 args) w=Go.Result.ok (Go.Next.enter 92 args) w:=fun args w=>by kernel_rfl
@[simp] theorem Tw.call93:∀ (args:Array Go.Value) (w:Go.World),  Go.Sem.run Tw.prog (Go.callFunc 93 args) w=Go.Result.ok (Go.Next.enter 93 args) w:=fun args w=>by kernel_rfl
@[simp] theorem Tw.call94:∀ (args:Array Go.Value) (w:Go.World),  Go.Sem.run Tw.prog (Go.callFunc 94 args) w=Go.Result.ok (Go.Next.enter 94 args) w:=fun args w=>by kernel_rfl
@[simp] theorem Tw.call95:∀ (args:Array Go.Value) (w:Go.World),  Go.Sem.run Tw.prog (Go.callFunc 95 args) w=Go.Result.ok (Go.Next.enter 95 args) w:=fun args w=>by kernel_rfl
@[simp] theorem Tw.call96:∀ (args:Array Go.Value) (w:Go.World),  Go.Sem.run Tw.prog (Go.callFunc 96 args) w=Go.Result.ok (Go.Next.enter 96 args) w:=fun args w=>by kernel_rfl
@[simp] theorem Tw.call97:∀ (args:Array Go.Value) (w:Go.World),  Go.Sem.run Tw.prog (Go.callFunc 97 args) w=Go.Result.ok (Go.Next.enter 97 args) w:=fun args w=>by kernel_rfl
@[simp] theorem Tw.call98:∀ (args:Array Go.Value) (w:Go.World),  Go.Sem.run Tw.prog (Go.callFunc 98 args) w=Go.Result.ok (Go.Next.enter 98 args) w:=fun args w=>by kernel_rfl
@[simp] theorem Tw.call99:∀ (args:Array Go.Value) (w:Go.World),  Go.Sem.run Tw.prog (Go.callFunc 99 args) w=Go.Result.ok (Go.Next.enter 99 args) w:=fun args w=>by kernel_rfl
@[simp] theorem Tw.func10:Tw.prog.funcs[10]?=Option.some Go.Proofs.Tryz.f10:=by kernel_rfl
@[simp] theorem Tw.func100:Tw.prog.funcs[100]?=Option.some Go.Proofs.Tryz.f100:=by kernel_rfl
@[simp] theorem Tw.func101:Tw.prog.funcs[101]?=Option.some Go.Proofs.Tryz.f101:=by kernel_rfl
@[simp] theorem Tw.func102:Tw.prog.funcs[102]?=Option.some Go.Proofs.Tryz.f102:=by kernel_rfl
@[simp] theorem Tw.func103:Tw.prog.funcs[103]?=Option.some Go.Proofs.Tryz.f103:=by kernel_rfl
@[simp] theorem Tw.func104:Tw.prog.funcs[104]?=Option.some Go.Proofs.Tryz.f104:=by kernel_rfl
@[simp] theorem Tw.func105:Tw.prog.funcs[105]?=Option.some Go.Proofs.Tryz.f105:=by kernel_rfl
@[simp] theorem Tw.func106:Tw.prog.funcs[106]?=Option.some Go.Proofs.Tryz.f106:=by kernel_rfl
@[simp] theorem Tw.func107:Tw.prog.funcs[107]?=Option.some Go.Proofs.Tryz.f107:=by kernel_rfl
@[simp] theorem Tw.func108:Tw.prog.funcs[108]?=Option.some Go.Proofs.Tryz.f108:=by kernel_rfl
@[simp] theorem Tw.func11:Tw.prog.funcs[11]?=Option.some Go.Proofs.Tryz.f11:=by kernel_rfl
@[simp] theorem Tw.func12:Tw.prog.funcs[12]?=Option.some Go.Proofs.Tryz.f12:=by kernel_rfl
@[simp] theorem Tw.func128:Tw.prog.funcs[128]?=Option.some Go.Proofs.Tryz.f128:=by kernel_rfl
@[simp] theorem Tw.func129:Tw.prog.funcs[129]?=Option.some Go.Proofs.Tryz.f129:=by kernel_rfl
@[simp] theorem Tw.func13:Tw.prog.funcs[13]?=Option.some Go.Proofs.Tryz.f13:=by kernel_rfl
@[simp] theorem Tw.func130:Tw.prog.funcs[130]?=Option.some Go.Proofs.Tryz.f130:=by kernel_rfl
@[simp] theorem Tw.func131:Tw.prog.funcs[131]?=Option.some Go.Proofs.Tryz.f131:=by kernel_rfl
@[simp] theorem Tw.func132:Tw.prog.funcs[132]?=Option.some Go.Proofs.Tryz.f132:=by kernel_rfl
@[simp] theorem Tw.func133:Tw.prog.funcs[133]?=Option.some Go.Proofs.Tryz.f133:=by kernel_rfl
@[simp] theorem Tw.func14:Tw.prog.funcs[14]?=Option.some Go.Proofs.Tryz.f14:=by kernel_rfl
@[simp] theorem Tw.func15:Tw.prog.funcs[15]?=Option.some Go.Proofs.Tryz.f15:=by kernel_rfl
@[simp] theorem Tw.func16:Tw.prog.funcs[16]?=Option.some Go.Proofs.Tryz.f16:=by kernel_rfl
@[simp] theorem Tw.func17:Tw.prog.funcs[17]?=Option.some Go.Proofs.Tryz.f17:=by kernel_rfl
@[simp] theorem Tw.func18:Tw.prog.funcs[18]?=Option.some Go.Proofs.Tryz.f18:=by kernel_rfl
@[simp] theorem Tw.func19:Tw.prog.funcs[19]?=Option.some Go.Proofs.Tryz.f19:=by kernel_rfl
@[simp] theorem Tw.func20:Tw.prog.funcs[20]?=Option.some Go.Proofs.Tryz.f20:=by kernel_rfl
@[simp] theorem Tw.func21:Tw.prog.funcs[21]?=Option.some Go.Proofs.Tryz.f21:=by kernel_rfl
@[simp] theorem Tw.func22:Tw.prog.funcs[22]?=Option.some Go.Proofs.Tryz.f22:=by kernel_rfl
@[simp] theorem Tw.func23:Tw.prog.funcs[23]?=Option.some Go.Proofs.Tryz.f23:=by kernel_rfl
@[simp] theorem Tw.func24:Tw.prog.funcs[24]?=Option.some Go.Proofs.Tryz.f24:=by kernel_rfl
@[simp] theorem Tw.func25:Tw.prog.funcs[25]?=Option.some Go.Proofs.Tryz.f25:=by kernel_rfl
@[simp] theorem Tw.func26:Tw.prog.funcs[26]?=Option.some Go.Proofs.Tryz.f26:=by kernel_rfl
@[simp] theorem Tw.func27:Tw.prog.funcs[27]?=Option.some Go.Proofs.Tryz.f27:=by kernel_rfl
@[simp] theorem Tw.func28:Tw.prog.funcs[28]?=Option.some Go.Proofs.Tryz.f28:=by kernel_rfl
@[simp] theorem Tw.func29:Tw.prog.funcs[29]?=Option.some Go.Proofs.Tryz.f29:=by kernel_rfl
@[simp] theorem Tw.func3:Tw.prog.funcs[3]?=Option.some Go.Proofs.Tryz.f3:=by kernel_rfl
@[simp] theorem Tw.func30:Tw.prog.funcs[30]?=Option.some Go.Proofs.Tryz.f30:=by kernel_rfl
@[simp] theorem Tw.func31:Tw.prog.funcs[31]?=Option.some Go.Proofs.Tryz.f31:=by kernel_rfl
@[simp] theorem Tw.func32:Tw.prog.funcs[32]?=Option.some Go.Proofs.Tryz.f32:=by kernel_rfl
@[simp] theorem Tw.func33:Tw.prog.funcs[33]?=Option.some Go.Proofs.Tryz.f33:=by kernel_rfl
@[simp] theorem Tw.func34:Tw.prog.funcs[34]?=Option.some Go.Proofs.Tryz.f34:=by kernel_rfl
@[simp] theorem Tw.func35:Tw.prog.funcs[35]?=Option.some Go.Proofs.Tryz.f35:=by kernel_rfl
@[simp] theorem Tw.func36:Tw.prog.funcs[36]?=Option.some Go.Proofs.Tryz.f36:=by kernel_rfl
@[simp] theorem Tw.func37:Tw.prog.funcs[37]?=Option.some Go.Proofs.Tryz.f37:=by kernel_rfl
@[simp] theorem Tw.func38:Tw.prog.funcs[38]?=Option.some Go.Proofs.Tryz.f38:=by kernel_rfl
@[simp] theorem Tw.func39:Tw.prog.funcs[39]?=Option.some Go.Proofs.Tryz.f39:=by kernel_rfl
@[simp] theorem Tw.func4:Tw.prog.funcs[4]?=Option.some Go.Proofs.Tryz.f4:=by kernel_rfl
@[simp] theorem Tw.func40:Tw.prog.funcs[40]?=Option.some Go.Proofs.Tryz.f40:=by kernel_rfl
@[simp] theorem Tw.func41:Tw.prog.funcs[41]?=Option.some Go.Proofs.Tryz.f41:=by kernel_rfl
@[simp] theorem Tw.func42:Tw.prog.funcs[42]?=Option.some Go.Proofs.Tryz.f42:=by kernel_rfl
@[simp] theorem Tw.func44:Tw.prog.funcs[44]?=Option.some Go.Proofs.Tryz.f44:=by kernel_rfl
@[simp] theorem Tw.func45:Tw.prog.funcs[45]?=Option.some Go.Proofs.Tryz.f45:=by kernel_rfl
@[simp] theorem Tw.func46:Tw.prog.funcs[46]?=Option.some Go.Proofs.Tryz.f46:=by kernel_rfl
@[simp] theorem Tw.func47:Tw.prog.funcs[47]?=Option.some Go.Proofs.Tryz.f47:=by kernel_rfl
@[simp] theorem Tw.func48:Tw.prog.funcs[48]?=Option.some Go.Proofs.Tryz.f48:=by kernel_rfl
@[simp] theorem Tw.func49:Tw.prog.funcs[49]?=Option.some Go.Proofs.Tryz.f49:=by kernel_rfl
@[simp] theorem Tw.func5:Tw.prog.funcs[5]?=Option.some Go.Proofs.Tryz.f5:=by kernel_rfl
@[simp] theorem Tw.func50:Tw.prog.funcs[50]?=Option.some Go.Proofs.Tryz.f50:=by kernel_rfl
@[simp] theorem Tw.func51:Tw.prog.funcs[51]?=Option.some Go.Proofs.Tryz.f51:=by kernel_rfl
@[simp] theorem Tw.func52:Tw.prog.funcs[52]?=Option.some Go.Proofs.Tryz.f52:=by kernel_rfl
@[simp] theorem Tw.func53:Tw.prog.funcs[53]?=Option.some Go.Proofs.Tryz.f53:=by kernel_rfl
@[simp] theorem Tw.func54:Tw.prog.funcs[54]?=Option.some Go.Proofs.Tryz.f54:=by kernel_rfl
@[simp] theorem Tw.func55:Tw.prog.funcs[55]?=Option.some Go.Proofs.Tryz.f55:=by kernel_rfl
@[simp] theorem Tw.func56:Tw.prog.funcs[56]?=Option.some Go.Proofs.Tryz.f56:=by kernel_rfl
@[simp] theorem Tw.func57:Tw.prog.funcs[57]?=Option.some Go.Proofs.Tryz.f57:=by kernel_rfl
@[simp] theorem Tw.func58:Tw.prog.funcs[58]?=Option.some Go.Proofs.Tryz.f58:=by kernel_rfl
@[simp] theorem Tw.func59:Tw.prog.funcs[59]?=Option.some Go.Proofs.Tryz.f59:=by kernel_rfl
@[simp] theorem Tw.func6:Tw.prog.funcs[6]?=Option.some Go.Proofs.Tryz.f6:=by kernel_rfl
@[simp] theorem Tw.func60:Tw.prog.funcs[60]?=Option.some Go.Proofs.Tryz.f60:=by kernel_rfl
@[simp] theorem Tw.func61:Tw.prog.funcs[61]?=Option.some Go.Proofs.Tryz.f61:=by kernel_rfl
@[simp] theorem Tw.func62:Tw.prog.funcs[62]?=Option.some Go.Proofs.Tryz.f62:=by kernel_rfl
@[simp] theorem Tw.func63:Tw.prog.funcs[63]?=Option.some Go.Proofs.Tryz.f63:=by kernel_rfl
@[simp] theorem Tw.func64:Tw.prog.funcs[64]?=Option.some Go.Proofs.Tryz.f64:=by kernel_rfl
@[simp] theorem Tw.func65:Tw.prog.funcs[65]?=Option.some Go.Proofs.Tryz.f65:=by kernel_rfl
@[simp] theorem Tw.func66:Tw.prog.funcs[66]?=Option.some Go.Proofs.Tryz.f66:=by kernel_rfl
@[simp] theorem Tw.func68:Tw.prog.funcs[68]?=Option.some Go.Proofs.Tryz.f68:=by kernel_rfl
@[simp] theorem Tw.func69:Tw.prog.funcs[69]?=Option.some Go.Proofs.Tryz.f69:=by kernel_rfl
@[simp] theorem Tw.func7:Tw.prog.funcs[7]?=Option.some Go.Proofs.Tryz.f7:=by kernel_rfl
@[simp] theorem Tw.func70:Tw.prog.funcs[70]?=Option.some Go.Proofs.Tryz.f70:=by kernel_rfl
@[simp] theorem Tw.func71:Tw.prog.funcs[71]?=Option.some Go.Proofs.Tryz.f71:=by kernel_rfl
@[simp] theorem Tw.func72:Tw.prog.funcs[72]?=Option.some Go.Proofs.Tryz.f72:=by kernel_rfl
@[simp] theorem Tw.func73:Tw.prog.funcs[73]?=Option.some Go.Proofs.Tryz.f73:=by kernel_rfl
@[simp] theorem Tw.func74:Tw.prog.funcs[74]?=Option.some Go.Proofs.Tryz.f74:=by kernel_rfl
@[simp] theorem Tw.func75:Tw.prog.funcs[75]?=Option.some Go.Proofs.Tryz.f75:=by kernel_rfl
@[simp] theorem Tw.func76:Tw.prog.funcs[76]?=Option.some Go.Proofs.Tryz.f76:=by kernel_rfl
@[simp] theorem Tw.func77:Tw.prog.funcs[77]?=Option.some Go.Proofs.Tryz.f77:=by kernel_rfl
@[simp] theorem Tw.func78:Tw.prog.funcs[78]?=Option.some Go.Proofs.Tryz.f78:=by kernel_rfl
@[simp] theorem Tw.func79:Tw.prog.funcs[79]?=Option.some Go.Proofs.Tryz.f79:=by kernel_rfl
@[simp] theorem Tw.func8:Tw.prog.funcs[8]?=Option.some Go.Proofs.Tryz.f8:=by kernel_rfl
@[simp] theorem Tw.func80:Tw.prog.funcs[80]?=Option.some Go.Proofs.Tryz.f80:=by kernel_rfl
@[simp] theorem Tw.func81:Tw.prog.funcs[81]?=Option.some Go.Proofs.Tryz.f81:=by kernel_rfl
@[simp] theorem Tw.func82:Tw.prog.funcs[82]?=Option.some Go.Proofs.Tryz.f82:=by kernel_rfl
@[simp] theorem Tw.func83:Tw.prog.funcs[83]?=Option.some Go.Proofs.Tryz.f83:=by kernel_rfl
@[simp] theorem Tw.func85:Tw.prog.funcs[85]?=Option.some Go.Proofs.Tryz.f85:=by kernel_rfl
@[simp] theorem Tw.func86:Tw.prog.funcs[86]?=Option.some Go.Proofs.Tryz.f86:=by kernel_rfl
@[simp] theorem Tw.func87:Tw.prog.funcs[87]?=Option.some Go.Proofs.Tryz.f87:=by kernel_rfl
@[simp] theorem Tw.func88:Tw.prog.funcs[88]?=Option.some Go.Proofs.Tryz.f88:=by kernel_rfl
@[simp] theorem Tw.func89:Tw.prog.funcs[89]?=Option.some Go.Proofs.Tryz.f89:=by kernel_rfl
@[simp] theorem Tw.func9:Tw.prog.funcs[9]?=Option.some Go.Proofs.Tryz.f9:=by kernel_rfl
@[simp] theorem Tw.func90:Tw.prog.funcs[90]?=Option.some Go.Proofs.Tryz.f90:=by kernel_rfl
@[simp] theorem Tw.func91:Tw.prog.funcs[91]?=Option.some Go.Proofs.Tryz.f91:=by kernel_rfl
@[simp] theorem Tw.func92:Tw.prog.funcs[92]?=Option.some Go.Proofs.Tryz.f92:=by kernel_rfl
@[simp] theorem Tw.func93:Tw.prog.funcs[93]?=Option.some Go.Proofs.Tryz.f93:=by kernel_rfl
@[simp] theorem Tw.func94:Tw.prog.funcs[94]?=Option.some Go.Proofs.Tryz.f94:=by kernel_rfl
@[simp] theorem Tw.func95:Tw.prog.funcs[95]?=Option.some Go.Proofs.Tryz.f95:=by kernel_rfl
@[simp] theorem Tw.func96:Tw.prog.funcs[96]?=Option.some Go.Proofs.Tryz.f96:=by kernel_rfl
@[simp] theorem Tw.func97:Tw.prog.funcs[97]?=Option.some Go.Proofs.Tryz.f97:=by kernel_rfl
@[simp] theorem Tw.func98:Tw.prog.funcs[98]?=Option.some Go.Proofs.Tryz.f98:=by kernel_rfl
@[simp] theorem Tw.func99:Tw.prog.funcs[99]?=Option.some Go.Proofs.Tryz.f99:=by kernel_rfl
@[simp] theorem Tw.isAgg0:∀ (w:Go.World),Go.Sem.run Tw.prog (Go.isAgg 0) w=Go.Result.ok Bool.false w:=fun w=>by kernel_rfl
@[simp] theorem Tw.isAgg100:∀ (w:Go.World),Go.Sem.run Tw.prog (Go.isAgg 100) w=Go.Result.ok Bool.false w:=fun w=>by kernel_rfl
@[simp] theorem Tw.isAgg103:∀ (w:Go.World),Go.Sem.run Tw.prog (Go.isAgg 103) w=Go.Result.ok Bool.true w:=fun w=>by kernel_rfl
@[simp] theorem Tw.isAgg110:∀ (w:Go.World),Go.Sem.run Tw.prog (Go.isAgg 110) w=Go.Result.ok Bool.false w:=fun w=>by kernel_rfl
@[simp] theorem Tw.isAgg112:∀ (w:Go.World),Go.Sem.run Tw.prog (Go.isAgg 112) w=Go.Result.ok Bool.false w:=fun w=>by kernel_rfl
@[simp] theorem Tw.isAgg131:∀ (w:Go.World),Go.Sem.run Tw.prog (Go.isAgg 131) w=Go.Result.ok Bool.false w:=fun w=>by kernel_rfl
@[simp] theorem Tw.isAgg3:∀ (w:Go.World),Go.Sem.run Tw.prog (Go.isAgg 3) w=Go.Result.ok Bool.false w:=fun w=>by kernel_rfl
@[simp] theorem Tw.isAgg32:∀ (w:Go.World),Go.Sem.run Tw.prog (Go.isAgg 32) w=Go.Result.ok Bool.false w:=fun w=>by kernel_rfl
@[simp] theorem Tw.isAgg34:∀ (w:Go.World),Go.Sem.run Tw.prog (Go.isAgg 34) w=Go.Result.ok Bool.true w:=fun w=>by kernel_rfl
@[simp] theorem Tw.isAgg39:∀ (w:Go.World),Go.Sem.run Tw.prog (Go.isAgg 39) w=Go.Result.ok Bool.false w:=fun w=>by kernel_rfl
@[simp] theorem Tw.isAgg4:∀ (w:Go.World),Go.Sem.run Tw.prog (Go.isAgg 4) w=Go.Result.ok Bool.false w:=fun w=>by kernel_rfl
@[simp] theorem Tw.isAgg43:∀ (w:Go.World),Go.Sem.run Tw.prog (Go.isAgg 43) w=Go.Result.ok Bool.false w:=fun w=>by kernel_rfl
@[simp] theorem Tw.isAgg45:∀ (w:Go.World),Go.Sem.run Tw.prog (Go.isAgg 45) w=Go.Result.ok Bool.true w:=fun w=>by kernel_rfl
@[simp] theorem Tw.isAgg49:∀ (w:Go.World),Go.Sem.run Tw.prog (Go.isAgg 49) w=Go.Result.ok Bool.true w:=fun w=>by kernel_rfl
@[simp] theorem Tw.isAgg5:∀ (w:Go.World),Go.Sem.run Tw.prog (Go.isAgg 5) w=Go.Result.ok Bool.false w:=fun w=>by kernel_rfl
@[simp] theorem Tw.isAgg52:∀ (w:Go.World),Go.Sem.run Tw.prog (Go.isAgg 52) w=Go.Result.ok Bool.false w:=fun w=>by kernel_rfl
@[simp] theorem Tw.isAgg63:∀ (w:Go.World),Go.Sem.run Tw.prog (Go.isAgg 63) w=Go.Result.ok Bool.false w:=fun w=>by kernel_rfl
@[simp] theorem Tw.isAgg88:∀ (w:Go.World),Go.Sem.run Tw.prog (Go.isAgg 88) w=Go.Result.ok Bool.true w:=fun w=>by kernel_rfl
@[simp] theorem Tw.isAgg9:∀ (w:Go.World),Go.Sem.run Tw.prog (Go.isAgg 9) w=Go.Result.ok Bool.false w:=fun w=>by kernel_rfl
@[simp] theorem Tw.isAgg93:∀ (w:Go.World),Go.Sem.run Tw.prog (Go.isAgg 93) w=Go.Result.ok Bool.false w:=fun w=>by kernel_rfl
theorem Tw.ntmps10:Go.Proofs.Tryz.f10.ntmps=42:=Go.Proofs.Tryz.ntmps10
theorem Tw.ntmps100:Go.Proofs.Tryz.f100.ntmps=18:=Go.Proofs.Tryz.ntmps100
theorem Tw.ntmps101:Go.Proofs.Tryz.f101.ntmps=20:=Go.Proofs.Tryz.ntmps101
theorem Tw.ntmps102:Go.Proofs.Tryz.f102.ntmps=27:=Go.Proofs.Tryz.ntmps102
theorem Tw.ntmps103:Go.Proofs.Tryz.f103.ntmps=5:=Go.Proofs.Tryz.ntmps103
theorem Tw.ntmps104:Go.Proofs.Tryz.f104.ntmps=14:=Go.Proofs.Tryz.ntmps104
theorem Tw.ntmps105:Go.Proofs.Tryz.f105.ntmps=6:=Go.Proofs.Tryz.ntmps105
theorem Tw.ntmps106:Go.Proofs.Tryz.f106.ntmps=8:=Go.Proofs.Tryz.ntmps106
theorem Tw.ntmps107:Go.Proofs.Tryz.f107.ntmps=22:=Go.Proofs.Tryz.ntmps107
theorem Tw.ntmps108:Go.Proofs.Tryz.f108.ntmps=10:=Go.Proofs.Tryz.ntmps108
theorem Tw.ntmps11:Go.Proofs.Tryz.f11.ntmps=12:=Go.Proofs.Tryz.ntmps11
theorem Tw.ntmps12:Go.Proofs.Tryz.f12.ntmps=59:=Go.Proofs.Tryz.ntmps12
theorem Tw.ntmps128:Go.Proofs.Tryz.f128.ntmps=17:=Go.Proofs.Tryz.ntmps128
theorem Tw.ntmps129:Go.Proofs.Tryz.f129.ntmps=25:=Go.Proofs.Tryz.ntmps129
theorem Tw.ntmps13:Go.Proofs.Tryz.f13.ntmps=73:=Go.Proofs.Tryz.ntmps13
theorem Tw.ntmps130:Go.Proofs.Tryz.f130.ntmps=13:=Go.Proofs.Tryz.ntmps130
theorem Tw.ntmps131:Go.Proofs.Tryz.f131.ntmps=20:=Go.Proofs.Tryz.ntmps131
theorem Tw.ntmps132:Go.Proofs.Tryz.f132.ntmps=34:=Go.Proofs.Tryz.ntmps132
theorem Tw.ntmps133:Go.Proofs.Tryz.f133.ntmps=6:=Go.Proofs.Tryz.ntmps133
theorem Tw.ntmps14:Go.Proofs.Tryz.f14.ntmps=38:=Go.Proofs.Tryz.ntmps14
theorem Tw.ntmps15:Go.Proofs.Tryz.f15.ntmps=21:=Go.Proofs.Tryz.ntmps15
theorem Tw.ntmps16:Go.Proofs.Tryz.f16.ntmps=20:=Go.Proofs.Tryz.ntmps16
theorem Tw.ntmps17:Go.Proofs.Tryz.f17.ntmps=87:=Go.Proofs.Tryz.ntmps17
theorem Tw.ntmps18:Go.Proofs.Tryz.f18.ntmps=15:=Go.Proofs.Tryz.ntmps18
theorem Tw.ntmps19:Go.Proofs.Tryz.f19.ntmps=50:=Go.Proofs.Tryz.ntmps19
theorem Tw.ntmps20:Go.Proofs.Tryz.f20.ntmps=32:=Go.Proofs.Tryz.ntmps20
theorem Tw.ntmps21:Go.Proofs.Tryz.f21.ntmps=33:=Go.Proofs.Tryz.ntmps21
theorem Tw.ntmps22:Go.Proofs.Tryz.f22.ntmps=22:=Go.Proofs.Tryz.ntmps22
theorem Tw.ntmps23:Go.Proofs.Tryz.f23.ntmps=20:=Go.Proofs.Tryz.ntmps23
theorem Tw.ntmps24:Go.Proofs.Tryz.f24.ntmps=10:=Go.Proofs.Tryz.ntmps24
theorem Tw.ntmps25:Go.Proofs.Tryz.f25.ntmps=21:=Go.Proofs.Tryz.ntmps25
theorem Tw.ntmps26:Go.Proofs.Tryz.f26.ntmps=42:=Go.Proofs.Tryz.ntmps26
theorem Tw.ntmps27:Go.Proofs.Tryz.f27.ntmps=50:=Go.Proofs.Tryz.ntmps27
theorem Tw.ntmps28:Go.Proofs.Tryz.f28.ntmps=27:=Go.Proofs.Tryz.ntmps28
theorem Tw.ntmps29:Go.Proofs.Tryz.f29.ntmps=12:=Go.Proofs.Tryz.ntmps29
theorem Tw.ntmps3:Go.Proofs.Tryz.f3.ntmps=114:=Go.Proofs.Tryz.ntmps3
theorem Tw.ntmps30:Go.Proofs.Tryz.f30.ntmps=15:=Go.Proofs.Tryz.ntmps30
theorem Tw.ntmps31:Go.Proofs.Tryz.f31.ntmps=46:=Go.Proofs.Tryz.ntmps31
theorem Tw.ntmps32:Go.Proofs.Tryz.f32.ntmps=37:=Go.Proofs.Tryz.ntmps32
theorem Tw.ntmps33:Go.Proofs.Tryz.f33.ntmps=54:=Go.Proofs.Tryz.ntmps33
theorem Tw.ntmps34:Go.Proofs.Tryz.f34.ntmps=49:=Go.Proofs.Tryz.ntmps34
theorem Tw.ntmps35:Go.Proofs.Tryz.f35.ntmps=89:=Go.Proofs.Tryz.ntmps35
theorem Tw.ntmps36:Go.Proofs.Tryz.f36.ntmps=9:=Go.Proofs.Tryz.ntmps36
theorem Tw.ntmps37:Go.Proofs.Tryz.f37.ntmps=6:=Go.Proofs.Tryz.ntmps37
theorem Tw.ntmps38:Go.Proofs.Tryz.f38.ntmps=24:=Go.Proofs.Tryz.ntmps38
theorem Tw.ntmps39:Go.Proofs.Tryz.f39.ntmps=57:=Go.Proofs.Tryz.ntmps39
theorem Tw.ntmps4:Go.Proofs.Tryz.f4.ntmps=27:=Go.Proofs.Tryz.ntmps4
theorem Tw.ntmps40:Go.Proofs.Tryz.f40.ntmps=23:=Go.Proofs.Tryz.ntmps40
theorem Tw.ntmps41:Go.Proofs.Tryz.f41.ntmps=12:=Go.Proofs.Tryz.ntmps41
theorem Tw.ntmps42:Go.Proofs.Tryz.f42.ntmps=15:=Go.Proofs.Tryz.ntmps42
theorem Tw.ntmps44:Go.Proofs.Tryz.f44.ntmps=5:=Go.Proofs.Tryz.ntmps44
theorem Tw.ntmps45:Go.Proofs.Tryz.f45.ntmps=18:=Go.Proofs.Tryz.ntmps45
theorem Tw.ntmps46:Go.Proofs.Tryz.f46.ntmps=51:=Go.Proofs.Tryz.ntmps46
theorem Tw.ntmps47:Go.Proofs.Tryz.f47.ntmps=30:=Go.Proofs.Tryz.ntmps47
theorem Tw.ntmps48:Go.Proofs.Tryz.f48.ntmps=37:=Go.Proofs.Tryz.ntmps48
theorem Tw.ntmps49:Go.Proofs.Tryz.f49.ntmps=3:=Go.Proofs.Tryz.ntmps49
theorem Tw.ntmps5:Go.Proofs.Tryz.f5.ntmps=90:=Go.Proofs.Tryz.ntmps5
theorem Tw.ntmps50:Go.Proofs.Tryz.f50.ntmps=5:=Go.Proofs.Tryz.ntmps50
theorem Tw.ntmps51:Go.Proofs.Tryz.f51.ntmps=8:=Go.Proofs.Tryz.ntmps51
theorem Tw.ntmps52:Go.Proofs.Tryz.f52.ntmps=29:=Go.Proofs.Tryz.ntmps52
theorem Tw.ntmps53:Go.Proofs.Tryz.f53.ntmps=28:=Go.Proofs.Tryz.ntmps53
theorem Tw.ntmps54:Go.Proofs.Tryz.f54.ntmps=19:=Go.Proofs.Tryz.ntmps54
theorem Tw.ntmps55:Go.Proofs.Tryz.f55.ntmps=8:=Go.Proofs.Tryz.ntmps55
theorem Tw.ntmps56:Go.Proofs.Tryz.f56.ntmps=27:=Go.Proofs.Tryz.ntmps56
theorem Tw.ntmps57:Go.Proofs.Tryz.f57.ntmps=20:=Go.Proofs.Tryz.ntmps57
theorem Tw.ntmps58:Go.Proofs.Tryz.f58.ntmps=13:=Go.Proofs.Tryz.ntmps58
theorem Tw.ntmps59:Go.Proofs.Tryz.f59.ntmps=15:=Go.Proofs.Tryz.ntmps59
theorem Tw.ntmps6:Go.Proofs.Tryz.f6.ntmps=23:=Go.Proofs.Tryz.ntmps6
theorem Tw.ntmps60:Go.Proofs.Tryz.f60.ntmps=51:=Go.Proofs.Tryz.ntmps60
theorem Tw.ntmps61:Go.Proofs.Tryz.f61.ntmps=28:=Go.Proofs.Tryz.ntmps61
theorem Tw.ntmps62:Go.Proofs.Tryz.f62.ntmps=26:=Go.Proofs.Tryz.ntmps62
theorem Tw.ntmps63:Go.Proofs.Tryz.f63.ntmps=9:=Go.Proofs.Tryz.ntmps63
theorem Tw.ntmps64:Go.Proofs.Tryz.f64.ntmps=6:=Go.Proofs.Tryz.ntmps64
theorem Tw.ntmps65:Go.Proofs.Tryz.f65.ntmps=5:=Go.Proofs.Tryz.ntmps65
theorem Tw.ntmps66:Go.Proofs.Tryz.f66.ntmps=17:=Go.Proofs.Tryz.ntmps66
theorem Tw.ntmps69:Go.Proofs.Tryz.f69.ntmps=32:=Go.Proofs.Tryz.ntmps69
theorem Tw.ntmps7:Go.Proofs.Tryz.f7.ntmps=73:=Go.Proofs.Tryz.ntmps7
theorem Tw.ntmps70:Go.Proofs.Tryz.f70.ntmps=34:=Go.Proofs.Tryz.ntmps70
theorem Tw.ntmps71:Go.Proofs.Tryz.f71.ntmps=26:=Go.Proofs.Tryz.ntmps71
theorem Tw.ntmps72:Go.Proofs.Tryz.f72.ntmps=12:=Go.Proofs.Tryz.ntmps72
theorem Tw.ntmps73:Go.Proofs.Tryz.f73.ntmps=22:=Go.Proofs.Tryz.ntmps73
theorem Tw.ntmps74:Go.Proofs.Tryz.f74.ntmps=12:=Go.Proofs.Tryz.ntmps74
theorem Tw.ntmps75:Go.Proofs.Tryz.f75.ntmps=15:=Go.Proofs.Tryz.ntmps75
theorem Tw.ntmps76:Go.Proofs.Tryz.f76.ntmps=40:=Go.Proofs.Tryz.ntmps76
theorem Tw.ntmps77:Go.Proofs.Tryz.f77.ntmps=33:=Go.Proofs.Tryz.ntmps77
theorem Tw.ntmps78:Go.Proofs.Tryz.f78.ntmps=8:=Go.Proofs.Tryz.ntmps78
theorem Tw.ntmps79:Go.Proofs.Tryz.f79.ntmps=25:=Go.Proofs.Tryz.ntmps79
theorem Tw.ntmps8:Go.Proofs.Tryz.f8.ntmps=27:=Go.Proofs.Tryz.ntmps8
theorem Tw.ntmps80:Go.Proofs.Tryz.f80.ntmps=27:=Go.Proofs.Tryz.ntmps80
theorem Tw.ntmps81:Go.Proofs.Tryz.f81.ntmps=10:=Go.Proofs.Tryz.ntmps81
theorem Tw.ntmps82:Go.Proofs.Tryz.f82.ntmps=19:=Go.Proofs.Tryz.ntmps82
theorem Tw.ntmps83:Go.Proofs.Tryz.f83.ntmps=33:=Go.Proofs.Tryz.ntmps83
theorem Tw.ntmps85:Go.Proofs.Tryz.f85.ntmps=26:=Go.Proofs.Tryz.ntmps85
theorem Tw.ntmps86:Go.Proofs.Tryz.f86.ntmps=8:=Go.Proofs.Tryz.ntmps86
theorem Tw.ntmps87:Go.Proofs.Tryz.f87.ntmps=22:=Go.Proofs.Tryz.ntmps87
theorem Tw.ntmps88:Go.Proofs.Tryz.f88.ntmps=33:=Go.Proofs.Tryz.ntmps88
theorem Tw.ntmps89:Go.Proofs.Tryz.f89.ntmps=24:=Go.Proofs.Tryz.ntmps89
theorem Tw.ntmps9:Go.Proofs.Tryz.f9.ntmps=36:=Go.Proofs.Tryz.ntmps9
theorem Tw.ntmps90:Go.Proofs.Tryz.f90.ntmps=7:=Go.Proofs.Tryz.ntmps90
theorem Tw.ntmps91:Go.Proofs.Tryz.f91.ntmps=23:=Go.Proofs.Tryz.ntmps91
theorem Tw.ntmps92:Go.Proofs.Tryz.f92.ntmps=48:=Go.Proofs.Tryz.ntmps92
theorem Tw.ntmps93:Go.Proofs.Tryz.f93.ntmps=37:=Go.Proofs.Tryz.ntmps93
theorem Tw.ntmps94:Go.Proofs.Tryz.f94.ntmps=17:=Go.Proofs.Tryz.ntmps94
theorem Tw.ntmps95:Go.Proofs.Tryz.f95.ntmps=49:=Go.Proofs.Tryz.ntmps95
theorem Tw.ntmps96:Go.Proofs.Tryz.f96.ntmps=36:=Go.Proofs.Tryz.ntmps96
theorem Tw.ntmps97:Go.Proofs.Tryz.f97.ntmps=6:=Go.Proofs.Tryz.ntmps97
theorem Tw.ntmps98:Go.Proofs.Tryz.f98.ntmps=10:=Go.Proofs.Tryz.ntmps98
theorem Tw.ntmps99:Go.Proofs.Tryz.f99.ntmps=5:=Go.Proofs.Tryz.ntmps99
theorem Tw.results17:Go.Proofs.Tryz.f17.results=#[Go.ResultVar.cell 4 45,Go.ResultVar.tmp 5]:=Go.Proofs.Tryz.results17
theorem Tw.results18:Go.Proofs.Tryz.f18.results=#[Go.ResultVar.cell 2 45]:=Go.Proofs.Tryz.results18
theorem Tw.results36:Go.Proofs.Tryz.f36.results=#[Go.ResultVar.cell 2 45]:=Go.Proofs.Tryz.results36
theorem Tw.results52:Go.Proofs.Tryz.f52.results=#[Go.ResultVar.cell 2 45]:=Go.Proofs.Tryz.results52
theorem Tw.results53:Go.Proofs.Tryz.f53.results=#[Go.ResultVar.cell 4 45,Go.ResultVar.tmp 5]:=Go.Proofs.Tryz.results53
theorem Tw.results66:Go.Proofs.Tryz.f66.results=#[Go.ResultVar.cell 2 49]:=Go.Proofs.Tryz.results66
theorem Tw.results77:Go.Proofs.Tryz.f77.results=#[Go.ResultVar.cell 4 45]:=Go.Proofs.Tryz.results77
theorem Tw.results78:Go.Proofs.Tryz.f78.results=#[Go.ResultVar.cell 2 49]:=Go.Proofs.Tryz.results78
@[simp] theorem Tw.runUnderlying100:∀ (w:Go.World),Go.Sem.run Tw.prog (Go.underlying 100) w=Go.Result.ok (Go.TypeDesc.slice 103) w:=fun w=>by kernel_rfl
@[simp] theorem Tw.runUnderlying103:∀ (w:Go.World),  Go.Sem.run Tw.prog (Go.underlying 103) w =     Go.Result.ok       (Go.TypeDesc.struct         #[{ name:="host",type:=52,offset:=0,embedded:=Bool.false,tag:="",            pkgPath:="loop.example/g00197/impl",byteOffset:=0 },          { name:="at",type:=3,offset:=1,embedded:=Bool.false,tag:="",            pkgPath:="loop.example/g00197/impl",byteOffset:=8 }])       w:=fun w=>by kernel_rfl
@[simp] theorem Tw.runUnderlying116:∀ (w:Go.World),Go.Sem.run Tw.prog (Go.underlying 116) w=Go.Result.ok (Go.TypeDesc.slice 131) w:=fun w=>by kernel_rfl
@[simp] theorem Tw.runUnderlying135:∀ (w:Go.World),Go.Sem.run Tw.prog (Go.underlying 135) w=Go.Result.ok (Go.TypeDesc.slice 43) w:=fun w=>by kernel_rfl
@[simp] theorem Tw.runUnderlying24:∀ (w:Go.World),Go.Sem.run Tw.prog (Go.underlying 24) w=Go.Result.ok (Go.TypeDesc.slice 45) w:=fun w=>by kernel_rfl
@[simp] theorem Tw.runUnderlying34:∀ (w:Go.World),  Go.Sem.run Tw.prog (Go.underlying 34) w =     Go.Result.ok       (Go.TypeDesc.struct         #[{ name:="Id",type:=3,offset:=0,embedded:=Bool.false,tag:="",pkgPath:="",byteOffset:=0 },          { name:="Up",type:=4,offset:=1,embedded:=Bool.false,tag:="",pkgPath:="",byteOffset:=8 },          { name:="Units",type:=32,offset:=2,embedded:=Bool.false,tag:="",pkgPath:="",            byteOffset:=16 }])       w:=fun w=>by kernel_rfl
@[simp] theorem Tw.runUnderlying35:∀ (w:Go.World),Go.Sem.run Tw.prog (Go.underlying 35) w=Go.Result.ok (Go.TypeDesc.slice 9) w:=fun w=>by kernel_rfl
@[simp] theorem Tw.runUnderlying39:∀ (w:Go.World),Go.Sem.run Tw.prog (Go.underlying 39) w=Go.Result.ok (Go.TypeDesc.slice 3) w:=fun w=>by kernel_rfl
@[simp] theorem Tw.runUnderlying43:∀ (w:Go.World),Go.Sem.run Tw.prog (Go.underlying 43) w=Go.Result.ok (Go.TypeDesc.slice 49) w:=fun w=>by kernel_rfl
@[simp] theorem Tw.runUnderlying45:∀ (w:Go.World),  Go.Sem.run Tw.prog (Go.underlying 45) w =     Go.Result.ok       (Go.TypeDesc.struct         #[{ name:="Id",type:=3,offset:=0,embedded:=Bool.false,tag:="",pkgPath:="",byteOffset:=0 },          { name:="Up",type:=4,offset:=1,embedded:=Bool.false,tag:="",pkgPath:="",byteOffset:=8 },          { name:="Units",type:=43,offset:=2,embedded:=Bool.false,tag:="",pkgPath:="",            byteOffset:=16 }])       w:=fun w=>by kernel_rfl
@[simp] theorem Tw.runUnderlying49:∀ (w:Go.World),  Go.Sem.run Tw.prog (Go.underlying 49) w =     Go.Result.ok       (Go.TypeDesc.struct         #[{ name:="Group",type:=3,offset:=0,embedded:=Bool.false,tag:="",pkgPath:="",            byteOffset:=0 },          { name:="Index",type:=3,offset:=1,embedded:=Bool.false,tag:="",pkgPath:="",            byteOffset:=8 },          { name:="Text",type:=9,offset:=2,embedded:=Bool.false,tag:="",pkgPath:="",            byteOffset:=16 },          { name:="Sum",type:=3,offset:=3,embedded:=Bool.false,tag:="",pkgPath:="",            byteOffset:=32 }])       w:=fun w=>by kernel_rfl
@[simp] theorem Tw.runUnderlying63:∀ (w:Go.World),Go.Sem.run Tw.prog (Go.underlying 63) w=Go.Result.ok (Go.TypeDesc.slice 5) w:=fun w=>by kernel_rfl
@[simp] theorem Tw.runUnderlying65:∀ (w:Go.World),Go.Sem.run Tw.prog (Go.underlying 65) w=Go.Result.ok (Go.TypeDesc.slice 39) w:=fun w=>by kernel_rfl
@[simp] theorem Tw.runUnderlying76:∀ (w:Go.World),  Go.Sem.run Tw.prog (Go.underlying 76) w =     Go.Result.ok       (Go.TypeDesc.struct         #[{ name:="from",type:=3,offset:=0,embedded:=Bool.false,tag:="",            pkgPath:="loop.example/g00197/impl",byteOffset:=0 },          { name:="behind",type:=3,offset:=1,embedded:=Bool.false,tag:="",            pkgPath:="loop.example/g00197/impl",byteOffset:=8 },          { name:="unit",type:=3,offset:=2,embedded:=Bool.false,tag:="",            pkgPath:="loop.example/g00197/impl",byteOffset:=16 },          { name:="at",type:=3,offset:=3,embedded:=Bool.false,tag:="",            pkgPath:="loop.example/g00197/impl",byteOffset:=24 }])       w:=fun w=>by kernel_rfl
@[simp] theorem Tw.runUnderlying79:∀ (w:Go.World),Go.Sem.run Tw.prog (Go.underlying 79) w=Go.Result.ok (Go.TypeDesc.pointer 100) w:=fun w=>by kernel_rfl
@[simp] theorem Tw.runUnderlying88:∀ (w:Go.World),  Go.Sem.run Tw.prog (Go.underlying 88) w =     Go.Result.ok       (Go.TypeDesc.struct         #[{ name:="Group",type:=3,offset:=0,embedded:=Bool.false,tag:="",pkgPath:="",            byteOffset:=0 },          { name:="Index",type:=3,offset:=1,embedded:=Bool.false,tag:="",pkgPath:="",            byteOffset:=8 },          { name:="Text",type:=9,offset:=2,embedded:=Bool.false,tag:="",pkgPath:="",            byteOffset:=16 },          { name:="Sum",type:=3,offset:=3,embedded:=Bool.false,tag:="",pkgPath:="",            byteOffset:=32 }])       w:=fun w=>by kernel_rfl
@[simp] theorem Tw.sizeOf0:∀ (w:Go.World),Go.Sem.run Tw.prog (Go.sizeOf 0) w=Go.Result.ok 1 w:=fun w=>by kernel_rfl
@[simp] theorem Tw.sizeOf100:∀ (w:Go.World),Go.Sem.run Tw.prog (Go.sizeOf 100) w=Go.Result.ok 1 w:=fun w=>by kernel_rfl
@[simp] theorem Tw.sizeOf103:∀ (w:Go.World),Go.Sem.run Tw.prog (Go.sizeOf 103) w=Go.Result.ok 2 w:=fun w=>by kernel_rfl
@[simp] theorem Tw.sizeOf110:∀ (w:Go.World),Go.Sem.run Tw.prog (Go.sizeOf 110) w=Go.Result.ok 1 w:=fun w=>by kernel_rfl
@[simp] theorem Tw.sizeOf112:∀ (w:Go.World),Go.Sem.run Tw.prog (Go.sizeOf 112) w=Go.Result.ok 1 w:=fun w=>by kernel_rfl
@[simp] theorem Tw.sizeOf131:∀ (w:Go.World),Go.Sem.run Tw.prog (Go.sizeOf 131) w=Go.Result.ok 1 w:=fun w=>by kernel_rfl
@[simp] theorem Tw.sizeOf3:∀ (w:Go.World),Go.Sem.run Tw.prog (Go.sizeOf 3) w=Go.Result.ok 1 w:=fun w=>by kernel_rfl
@[simp] theorem Tw.sizeOf32:∀ (w:Go.World),Go.Sem.run Tw.prog (Go.sizeOf 32) w=Go.Result.ok 1 w:=fun w=>by kernel_rfl
@[simp] theorem Tw.sizeOf34:∀ (w:Go.World),Go.Sem.run Tw.prog (Go.sizeOf 34) w=Go.Result.ok 3 w:=fun w=>by kernel_rfl
@[simp] theorem Tw.sizeOf39:∀ (w:Go.World),Go.Sem.run Tw.prog (Go.sizeOf 39) w=Go.Result.ok 1 w:=fun w=>by kernel_rfl
@[simp] theorem Tw.sizeOf4:∀ (w:Go.World),Go.Sem.run Tw.prog (Go.sizeOf 4) w=Go.Result.ok 1 w:=fun w=>by kernel_rfl
@[simp] theorem Tw.sizeOf43:∀ (w:Go.World),Go.Sem.run Tw.prog (Go.sizeOf 43) w=Go.Result.ok 1 w:=fun w=>by kernel_rfl
@[simp] theorem Tw.sizeOf45:∀ (w:Go.World),Go.Sem.run Tw.prog (Go.sizeOf 45) w=Go.Result.ok 3 w:=fun w=>by kernel_rfl
@[simp] theorem Tw.sizeOf49:∀ (w:Go.World),Go.Sem.run Tw.prog (Go.sizeOf 49) w=Go.Result.ok 4 w:=fun w=>by kernel_rfl
@[simp] theorem Tw.sizeOf5:∀ (w:Go.World),Go.Sem.run Tw.prog (Go.sizeOf 5) w=Go.Result.ok 1 w:=fun w=>by kernel_rfl
@[simp] theorem Tw.sizeOf52:∀ (w:Go.World),Go.Sem.run Tw.prog (Go.sizeOf 52) w=Go.Result.ok 1 w:=fun w=>by kernel_rfl
@[simp] theorem Tw.sizeOf63:∀ (w:Go.World),Go.Sem.run Tw.prog (Go.sizeOf 63) w=Go.Result.ok 1 w:=fun w=>by kernel_rfl
@[simp] theorem Tw.sizeOf76:∀ (w:Go.World),Go.Sem.run Tw.prog (Go.sizeOf 76) w=Go.Result.ok 4 w:=fun w=>by kernel_rfl
@[simp] theorem Tw.sizeOf88:∀ (w:Go.World),Go.Sem.run Tw.prog (Go.sizeOf 88) w=Go.Result.ok 4 w:=fun w=>by kernel_rfl
@[simp] theorem Tw.sizeOf9:∀ (w:Go.World),Go.Sem.run Tw.prog (Go.sizeOf 9) w=Go.Result.ok 1 w:=fun w=>by kernel_rfl
@[simp] theorem Tw.sizeOf93:∀ (w:Go.World),Go.Sem.run Tw.prog (Go.sizeOf 93) w=Go.Result.ok 1 w:=fun w=>by kernel_rfl
@[simp] theorem Tw.typeInfo79:∀ (w:Go.World),Go.Sem.run Tw.prog (Go.typeInfo 79) w=Go.Result.ok Go.Proofs.Tryz.t79 w:=fun w=>by kernel_rfl
@[simp] theorem Tw.underlying0:Tw.prog.underlying 0=Option.some (Go.TypeDesc.tuple #[]):=by kernel_rfl
@[simp] theorem Tw.underlying100:Tw.prog.underlying 100=Option.some (Go.TypeDesc.slice 103):=by kernel_rfl
@[simp] theorem Tw.underlying103:Tw.prog.underlying 103 =   Option.some     (Go.TypeDesc.struct       #[{ name:="host",type:=52,offset:=0,embedded:=Bool.false,tag:="",          pkgPath:="loop.example/g00197/impl",byteOffset:=0 },        { name:="at",type:=3,offset:=1,embedded:=Bool.false,tag:="",          pkgPath:="loop.example/g00197/impl",byteOffset:=8 }]):=by kernel_rfl
@[simp] theorem Tw.underlying110:Tw.prog.underlying 110=Option.some (Go.TypeDesc.pointer 5):=by kernel_rfl
@[simp] theorem Tw.underlying112:Tw.prog.underlying 112=Option.some (Go.TypeDesc.int Go.IntKind.u8):=by kernel_rfl
@[simp] theorem Tw.underlying116:Tw.prog.underlying 116=Option.some (Go.TypeDesc.slice 131):=by kernel_rfl
@[simp] theorem Tw.underlying131:Tw.prog.underlying 131=Option.some (Go.TypeDesc.slice 112):=by kernel_rfl
@[simp] theorem Tw.underlying134:Tw.prog.underlying 134=Option.some (Go.TypeDesc.int Go.IntKind.u64):=by kernel_rfl
@[simp] theorem Tw.underlying135:Tw.prog.underlying 135=Option.some (Go.TypeDesc.slice 43):=by kernel_rfl
@[simp] theorem Tw.underlying139:Tw.prog.underlying 139=Option.some (Go.TypeDesc.int Go.IntKind.u32):=by kernel_rfl
@[simp] theorem Tw.underlying142:Tw.prog.underlying 142=Option.some (Go.TypeDesc.array 16 93):=by kernel_rfl
@[simp] theorem Tw.underlying22:Tw.prog.underlying 22=Option.some (Go.TypeDesc.slice 34):=by kernel_rfl
@[simp] theorem Tw.underlying24:Tw.prog.underlying 24=Option.some (Go.TypeDesc.slice 45):=by kernel_rfl
@[simp] theorem Tw.underlying3:Tw.prog.underlying 3=Option.some (Go.TypeDesc.int Go.IntKind.i64):=by kernel_rfl
@[simp] theorem Tw.underlying32:Tw.prog.underlying 32=Option.some (Go.TypeDesc.slice 88):=by kernel_rfl
@[simp] theorem Tw.underlying35:Tw.prog.underlying 35=Option.some (Go.TypeDesc.slice 9):=by kernel_rfl
@[simp] theorem Tw.underlying39:Tw.prog.underlying 39=Option.some (Go.TypeDesc.slice 3):=by kernel_rfl
@[simp] theorem Tw.underlying4:Tw.prog.underlying 4=Option.some Go.TypeDesc.bool:=by kernel_rfl
@[simp] theorem Tw.underlying43:Tw.prog.underlying 43=Option.some (Go.TypeDesc.slice 49):=by kernel_rfl
@[simp] theorem Tw.underlying5:Tw.prog.underlying 5=Option.some (Go.TypeDesc.int Go.IntKind.u8):=by kernel_rfl
@[simp] theorem Tw.underlying63:Tw.prog.underlying 63=Option.some (Go.TypeDesc.slice 5):=by kernel_rfl
@[simp] theorem Tw.underlying65:Tw.prog.underlying 65=Option.some (Go.TypeDesc.slice 39):=by kernel_rfl
@[simp] theorem Tw.underlying73:Tw.prog.underlying 73=Option.some (Go.TypeDesc.chan Go.ChanDir.recv 76):=by kernel_rfl
@[simp] theorem Tw.underlying79:Tw.prog.underlying 79=Option.some (Go.TypeDesc.pointer 100):=by kernel_rfl
@[simp] theorem Tw.underlying9:Tw.prog.underlying 9=Option.some Go.TypeDesc.string:=by kernel_rfl
@[simp] theorem Tw.underlying93:Tw.prog.underlying 93=Option.some (Go.TypeDesc.int Go.IntKind.u32):=by kernel_rfl
@[simp] theorem Tw.zeroValue0:∀ (w:Go.World),Go.Sem.run Tw.prog (Go.zeroValue 0) w=Go.Result.ok (Go.Value.tuple #[]) w:=fun w=>by kernel_rfl
@[simp] theorem Tw.zeroValue103:∀ (w:Go.World),  Go.Sem.run Tw.prog (Go.zeroValue 103) w =     Go.Result.ok (Go.Value.agg #[Go.Value.pointer Option.none,Go.Value.int Go.IntKind.i64 0]) w:=fun w=>by kernel_rfl
@[simp] theorem Tw.zeroValue110:∀ (w:Go.World),Go.Sem.run Tw.prog (Go.zeroValue 110) w=Go.Result.ok (Go.Value.pointer Option.none) w:=fun w=>by kernel_rfl
@[simp] theorem Tw.zeroValue131:∀ (w:Go.World),Go.Sem.run Tw.prog (Go.zeroValue 131) w=Go.Result.ok (Go.Value.slice Option.none 0 0) w:=fun w=>by kernel_rfl
@[simp] theorem Tw.zeroValue3:∀ (w:Go.World),Go.Sem.run Tw.prog (Go.zeroValue 3) w=Go.Result.ok (Go.Value.int Go.IntKind.i64 0) w:=fun w=>by kernel_rfl
@[simp] theorem Tw.zeroValue39:∀ (w:Go.World),Go.Sem.run Tw.prog (Go.zeroValue 39) w=Go.Result.ok (Go.Value.slice Option.none 0 0) w:=fun w=>by kernel_rfl
@[simp] theorem Tw.zeroValue4:∀ (w:Go.World),Go.Sem.run Tw.prog (Go.zeroValue 4) w=Go.Result.ok (Go.Value.bool Bool.false) w:=fun w=>by kernel_rfl
@[simp] theorem Tw.zeroValue43:∀ (w:Go.World),Go.Sem.run Tw.prog (Go.zeroValue 43) w=Go.Result.ok (Go.Value.slice Option.none 0 0) w:=fun w=>by kernel_rfl
@[simp] theorem Tw.zeroValue45:∀ (w:Go.World),  Go.Sem.run Tw.prog (Go.zeroValue 45) w =     Go.Result.ok       (Go.Value.agg #[Go.Value.int Go.IntKind.i64 0,Go.Value.bool Bool.false,Go.Value.slice Option.none 0 0]) w:=fun w=>by kernel_rfl
@[simp] theorem Tw.zeroValue49:∀ (w:Go.World),  Go.Sem.run Tw.prog (Go.zeroValue 49) w =     Go.Result.ok       (Go.Value.agg         #[Go.Value.int Go.IntKind.i64 0,Go.Value.int Go.IntKind.i64 0,Go.Value.string { data:=#[] },          Go.Value.int Go.IntKind.i64 0])       w:=fun w=>by kernel_rfl
@[simp] theorem Tw.zeroValue5:∀ (w:Go.World),Go.Sem.run Tw.prog (Go.zeroValue 5) w=Go.Result.ok (Go.Value.int Go.IntKind.u8 0) w:=fun w=>by kernel_rfl
@[simp] theorem Tw.zeroValue63:∀ (w:Go.World),Go.Sem.run Tw.prog (Go.zeroValue 63) w=Go.Result.ok (Go.Value.slice Option.none 0 0) w:=fun w=>by kernel_rfl
@[simp] theorem Tw.zeroValue76:∀ (w:Go.World),  Go.Sem.run Tw.prog (Go.zeroValue 76) w =     Go.Result.ok       (Go.Value.agg         #[Go.Value.int Go.IntKind.i64 0,Go.Value.int Go.IntKind.i64 0,Go.Value.int Go.IntKind.i64 0,          Go.Value.int Go.IntKind.i64 0])       w:=fun w=>by kernel_rfl
@[simp] theorem Tw.zeroValue9:∀ (w:Go.World),Go.Sem.run Tw.prog (Go.zeroValue 9) w=Go.Result.ok (Go.Value.string { data:=#[] }) w:=fun w=>by kernel_rfl
end Go.Proofs
/- . -/
namespace Go.Proofs.YteaieagkjepgiaaGreatDoorT
set_option maxRecDepth 100000
open Go.RowKit
theorem byte_of (n:Int) (h0:0<=n) (h1:n<256):Value.int .u8 n = .int .u8 ((UInt8.ofNat n.toNat).toNat:Int):=by
 have:(UInt8.ofNat n.toNat).toNat=n.toNat:=by simp;omega
 rw [this];congr 1;omega
end Go.Proofs.YteaieagkjepgiaaGreatDoorT
