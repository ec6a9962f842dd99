/- Texts of ours, laid one behind the other: AsE. -/
import Derived.Test.YtoglebfiobofoaaGreatDoorQr1
import Derived.WalkKit
import Derived.LaidEql
import Derived.Stop.Asserts
import Derived.RowKitTokens
/- AsE: . -/
namespace Go.Proofs.YtoglebfiobofoaaGreatDoor
set_option maxRecDepth 100000
set_option maxHeartbeats 16000000
open Go.RowKit Go.Extern.Stop Go.Stop Go.Extern
theorem as_nil (t:Value) (w:World):Calls Tryz.prog 78 #[.nilIface,t] w fun e w'=>e = .returned (.bool false)/\w'=w:=by
 go_enter Tryz.func78,Tryz.ntmps78
 go_wp2
 go_ret
 exact ⟨rfl,rfl⟩
theorem rfValueP (t:Addr) (w:World):(ReflectliteValue.unpack (.iface 126 (.pointer (some t)))).run Tryz.prog w
  = .ok (.agg #[.pointer (some ⟨3,126,none⟩),.pointer (some ⟨w.heap.size,0,none⟩),.int .u64 150]) (w.alloc (.cells #[.pointer (some t)] 126)):=by kernel_rfl
theorem rfTypeP (a:Addr) (w:World):(ReflectliteValue.methodAny (ReflectliteValue.valueError "reflectlite.Value.Type" 0) (fun t _ _ _=>ReflectliteType.toType t) #[.agg #[.pointer (some ⟨3,126,none⟩),.pointer (some a),.int .u64 150]]).run Tryz.prog w
  = .ok (.iface 197 (.agg #[.pointer (some ⟨3,126,none⟩)])) w:=by kernel_rfl
theorem rfMKind (h:Value) (w:World):(Go.method 161 197 (.agg #[h]) "Kind").run Tryz.prog w = .ok (214,h) w:=by kernel_rfl
theorem rfKindP (w:World):((ReflectliteType.abiMethod fun t=>(fun a:Nat=>Value.int IntKind.u8 (a:Int)) <$> Rtype.kind t) #[.pointer (some ⟨3,126,none⟩)]).run Tryz.prog w = .ok (.int .u8 22) w:=by kernel_rfl
theorem rfKindS (w:World):((ReflectliteType.abiMethod fun t=>(fun a:Nat=>Value.int IntKind.u8 (a:Int)) <$> Rtype.kind t) #[.pointer (some ⟨3,124,none⟩)]).run Tryz.prog w = .ok (.int .u8 25) w:=by kernel_rfl
theorem rlm (z:Sem Value) (f:TypeId->Addr->Nat->Nat->Sem Value) (v:Value):ReflectliteValue.method z f #[v]=(ReflectliteValue.parts v >>= fun o=>match o with | none=>z | some (t,a,fl)=>f t a fl (fl % 32)):=rfl
theorem qpt (a:Addr) (w:World):(ReflectliteValue.parts (.agg #[.pointer (some ⟨3,126,none⟩),.pointer (some a),.int .u64 150])).run Tryz.prog w = .ok (some (126,a,150)) w:=by kernel_rfl
theorem rfIsNilP (a p:Addr) (W:World) (ha:W.cell? a=some (.pointer (some p))) :
  (ReflectliteValue.method (ReflectliteValue.valueError "reflectlite.Value.IsNil" 0) ReflectliteValue.isNil #[.agg #[.pointer (some ⟨3,126,none⟩),.pointer (some a),.int .u64 150]]).run Tryz.prog W = .ok (.bool false) W:=by
 rw [rlm]
 simp only [Sem.run_bind,qpt,Result.andThen]
 simp [ReflectliteValue.isNil,loadVar,isAgg,underlying,Tryz.underlying126,ha,Result.andThen]
theorem rfMElem (h:Value) (w:World):(Go.method 161 197 (.agg #[h]) "Elem").run Tryz.prog w = .ok (225,.agg #[h]) w:=by kernel_rfl
theorem rfMImpl (h:Value) (w:World):(Go.method 161 197 (.agg #[h]) "Implements").run Tryz.prog w = .ok (226,.agg #[h]) w:=by kernel_rfl
theorem rfMAssign (h:Value) (w:World):(Go.method 161 197 (.agg #[h]) "AssignableTo").run Tryz.prog w = .ok (223,.agg #[h]) w:=by kernel_rfl
theorem rfElemP (w:World):(ReflectliteType.method ReflectliteType.elem #[.agg #[.pointer (some ⟨3,126,none⟩)]]).run Tryz.prog w = .ok (.iface 197 (.agg #[.pointer (some ⟨3,124,none⟩)])) w:=by kernel_rfl
theorem rfImplS (w:World):(ReflectliteType.relation "Implements" ReflectliteType.implements_ #[.agg #[.pointer (some ⟨3,124,none⟩)],.iface 197 (.agg #[.pointer (some ⟨3,74,none⟩)])]).run Tryz.prog w = .ok (.bool true) w:=by kernel_rfl
theorem rfTypeOfS (v:Value) (w:World):(ReflectliteType.typeOf #[.iface 124 v]).run Tryz.prog w = .ok (.iface 197 (.agg #[.pointer (some ⟨3,124,none⟩)])) w:=by kernel_rfl
theorem rfAssignS (w:World):(ReflectliteType.relation "AssignableTo" ReflectliteType.assignableTo #[.agg #[.pointer (some ⟨3,124,none⟩)],.iface 197 (.agg #[.pointer (some ⟨3,124,none⟩)])]).run Tryz.prog w = .ok (.bool true) w:=by kernel_rfl
theorem rfValueS (c:Int) (w:World):(ReflectliteValue.unpack (.iface 124 (.agg #[.int .i64 c]))).run Tryz.prog w
  = .ok (.agg #[.pointer (some ⟨3,124,none⟩),.pointer (some ⟨w.heap.size,0,none⟩),.int .u64 153]) (w.alloc (.cells #[.int .i64 c] 124)):=by kernel_rfl
theorem rfElemOfP (w:World):(Rtype.elem? 126).run Tryz.prog w = .ok (some 124) w:=by kernel_rfl
theorem rfMkS (p:Addr) (w:World):(ReflectliteValue.mk 124 p ReflectliteValue.flagAddr).run Tryz.prog w = .ok (.agg #[.pointer (some ⟨3,124,none⟩),.pointer (some p),.int .u64 409]) w:=by kernel_rfl
theorem rfElemVP (a p:Addr) (W:World) (ha:W.cell? a=some (.pointer (some p))) :
  (ReflectliteValue.method (ReflectliteValue.valueError "reflectlite.Value.Elem" 0) ReflectliteValue.elem #[.agg #[.pointer (some ⟨3,126,none⟩),.pointer (some a),.int .u64 150]]).run Tryz.prog W
   = .ok (.agg #[.pointer (some ⟨3,124,none⟩),.pointer (some p),.int .u64 409]) W:=by
 rw [rlm]
 simp only [Sem.run_bind,qpt,Result.andThen]
 simp [ReflectliteValue.elem,loadVar,isAgg,underlying,Tryz.underlying126,ha,Result.andThen,rfElemOfP,rfMkS]
theorem rfPartsSa (a:Addr) (w:World):(ReflectliteValue.parts (.agg #[.pointer (some ⟨3,124,none⟩),.pointer (some a),.int .u64 409])).run Tryz.prog w = .ok (some (124,a,409)) w:=by kernel_rfl
theorem rfPartsS (a:Addr) (w:World):(ReflectliteValue.parts (.agg #[.pointer (some ⟨3,124,none⟩),.pointer (some a),.int .u64 153])).run Tryz.prog w = .ok (some (124,a,153)) w:=by kernel_rfl
theorem rfDirectS (w:World):(Rtype.directlyAssignable 124 124).run Tryz.prog w = .ok true w:=by kernel_rfl
theorem rfLoadS (b:Nat) (c:Int) (W:World) (hb:W.cell? ⟨b,0,none⟩=some (.int .i64 c)):(loadVar 124 ⟨b,0,none⟩).run Tryz.prog W = .ok (.agg #[.int .i64 c]) W:=by
 simp [loadVar,isAgg,underlying,Tryz.underlying124,hb,Result.andThen,loadCells,loadCellsFrom,Addr.add]
theorem rfStoreS (ta:Nat) (c:Int) (old:Value) (W:World) (ht:W.cell? ⟨ta,0,none⟩=some old) (hf:W.frozen? ⟨ta,0,none⟩=false):(storeVar 124 ⟨ta,0,none⟩ (.agg #[.int .i64 c])).run Tryz.prog W = .ok () (W.setCell ⟨ta,0,none⟩ (.int .i64 c)):=by
 simp [storeVar,Value.cells,storeCells,Addr.add]
 rw [run_store Tryz.prog W ⟨ta,0,none⟩ _ _ (by rfl)]
 simp [ht,hf]
theorem rl_go {v x:Value} {W:World} {R:Result Value} {K:Option (TypeId × Addr × Nat)->Option (TypeId × Addr × Nat)->Sem Value} (h:ReflectliteValue.set #[v,x]=(ReflectliteValue.parts v >>= fun p=>ReflectliteValue.parts x >>= fun q=>K p q)) (hr:Sem.run Tryz.prog (ReflectliteValue.parts v >>= fun p=>ReflectliteValue.parts x >>= fun q=>K p q) W=R):Sem.run Tryz.prog (ReflectliteValue.set #[v,x]) W=R:=h ▸ hr
theorem rfSetS (ta b:Nat) (c:Int) (old:Value) (W:World) (hb:W.cell? ⟨b,0,none⟩=some (.int .i64 c)) (ht:W.cell? ⟨ta,0,none⟩=some old) (hf:W.frozen? ⟨ta,0,none⟩=false) :
  (ReflectliteValue.set #[.agg #[.pointer (some ⟨3,124,none⟩),.pointer (some ⟨ta,0,none⟩),.int .u64 409],.agg #[.pointer (some ⟨3,124,none⟩),.pointer (some ⟨b,0,none⟩),.int .u64 153]]).run Tryz.prog W
   = .ok (.tuple #[]) (W.setCell ⟨ta,0,none⟩ (.int .i64 c)):=by
 refine rl_go rfl ?_
 simp only [Sem.run_bind,rfPartsSa,rfPartsS,Result.andThen]
 simp [ReflectliteValue.flagAddr,rfLoadS b c W hb,Result.andThen,rfDirectS,rfStoreS ta c old W ht hf]
end Go.Proofs.YtoglebfiobofoaaGreatDoor
