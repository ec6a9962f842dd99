/- Texts of ours, laid one behind the other: SgK, SgL, SgM. -/
import Derived.Test.YteaieagkjepgiaaGreatDoorPfM11
import Derived.Conc.LoneCalls
set_option linter.unusedVariables false
set_option linter.unusedSimpArgs false
/- . -/
namespace Go.Proofs.YteaieagkjepgiaaGreatDoor
set_option maxRecDepth 100000
open Go.Conc
def K0:Array Oper:=#[{ dst:=some 3,op:=.binOp .lss 3 (.tmp 1) (.const (.int .i64 33)) 3,type:=3,pos:="",after:=#[],guard:=none },{ dst:=some 4,op:=.binOp .lss 3 (.const (.int .i64 (-1))) (.tmp 1) 3,type:=3,pos:="",after:=#[],guard:=none },{ dst:=some 5,op:=.binOp .lss 3 (.tmp 0) (.const (.int .i64 4)) 3,type:=3,pos:="",after:=#[],guard:=none },{ dst:=some 6,op:=.binOp .lss 3 (.const (.int .i64 0)) (.tmp 0) 3,type:=3,pos:="",after:=#[],guard:=none }]
def K1:Array Oper:=#[{ dst:=some 2,op:=.makeChan 96 (.const (.int .i64 32)),type:=3,pos:="",after:=#[],guard:=none },{ dst:=some 7,op:=.assign (.const (.int .i64 0)),type:=3,pos:="",after:=#[],guard:=none },{ dst:=some 9,op:=.binOp .add 3 (.tmp 0) (.const (.int .i64 1)) 3,type:=3,pos:="",after:=#[],guard:=none },{ dst:=some 10,op:=.binOp .mul 3 (.tmp 9) (.const (.int .i64 8)) 3,type:=3,pos:="",after:=#[],guard:=none }]
def K2:Array Oper:=#[{ dst:=some 8,op:=.binOp .lss 3 (.tmp 7) (.tmp 1) 3,type:=3,pos:="",after:=#[],guard:=none }]
def K3:Array Oper:=#[{ dst:=none,op:=.call { callee:=.builtin .close,args:=#[.tmp 2],argTypes:=#[96] },type:=3,pos:="",after:=#[],guard:=none }]
def K4:Array Oper:=#[{ dst:=some 11,op:=.binOp .rem 3 (.tmp 7) (.tmp 10) 3,type:=3,pos:="",after:=#[],guard:=none },{ dst:=some 12,op:=.binOp .quo 3 (.tmp 11) (.const (.int .i64 4)) 3,type:=3,pos:="",after:=#[],guard:=none },{ dst:=some 13,op:=.binOp .rem 3 (.tmp 12) (.tmp 9) 3,type:=3,pos:="",after:=#[],guard:=none },{ dst:=some 14,op:=.binOp .quo 3 (.tmp 12) (.tmp 9) 3,type:=3,pos:="",after:=#[],guard:=none },{ dst:=some 15,op:=.binOp .mul 3 (.tmp 14) (.const (.int .i64 4)) 3,type:=3,pos:="",after:=#[],guard:=none },{ dst:=some 16,op:=.binOp .rem 3 (.tmp 11) (.const (.int .i64 4)) 3,type:=3,pos:="",after:=#[],guard:=none },{ dst:=some 17,op:=.binOp .add 3 (.tmp 15) (.tmp 16) 3,type:=3,pos:="",after:=#[],guard:=none },{ dst:=some 18,op:=.binOp .add 3 (.tmp 7) (.const (.int .i64 4)) 3,type:=3,pos:="",after:=#[],guard:=none },{ dst:=some 19,op:=.call { callee:=.builtin .min,args:=#[.tmp 18,.tmp 1],argTypes:=#[3,3] },type:=3,pos:="",after:=#[],guard:=none },{ dst:=some 20,op:=.build 76 #[(0,.tmp 7),(1,.tmp 19),(2,.tmp 13),(3,.tmp 17)],type:=76,pos:="",after:=#[],guard:=none },{ dst:=none,op:=.send (.tmp 2) (.tmp 20),type:=3,pos:="",after:=#[],guard:=none },{ dst:=some 7,op:=.assign (.tmp 18),type:=3,pos:="",after:=#[],guard:=none }]
def KB:Array Oper:=#[{ dst:=some 2,op:=.extract (.const (.int .i64 0)) 0,type:=3,pos:="",after:=#[],guard:=none }]
def KLc:Code:=.seq (.seq (.region 2 K2 false) (.cond (.tmp 8) .skip (.exit 0))) (.region 4 K4 false)
def KBad:Code:=.region 9 KB false
def KBody:Code:=.seq (.region 0 K0 false) (.seq (.cond (.tmp 3) (.cond (.tmp 4) (.cond (.tmp 5) (.cond (.tmp 6) .skip KBad) KBad) KBad) KBad) (.seq (.region 1 K1 false) (.seq (.block 0 (.loop KLc)) (.seq (.region 3 K3 false) .ret))))
def cellsT:Func:={ name:="cells",origin:="",params:=#[3,3],resultTypes:=#[96],nfree:=0,ntmps:=21,results:=#[.tmp 2],body:=some KBody,norace:=false,file:="",endLine:=0,tmpNames:=#[] }
noncomputable def twF:Array Func:=Tryz.prog.funcs.setIfInBounds 43 cellsT
noncomputable def tw:Program:=⟨Tryz.prog.toTables,twF⟩
def Rn (P:Program) (Q:Frame->World->Prop) (fr:Frame) (w:World):Prop:=∃ fr' w',Q fr' w'/\∀ (cs:List Frame) (τ:Nat->Question->Nat),∃ m,runN P m (lone fr cs (Rt w τ)) = .next (lone fr' cs (Rt w' τ))
section
variable {P:Program} {Q:Frame->World->Prop} {fn:FuncId} {tmps:Array Value} {k:List Item} {w w' w'':World} {fr fr':Frame}
theorem rn_here (h:Q fr w):Rn P Q fr w:=⟨fr,w,h,fun _ _=>⟨0,rfl⟩⟩
theorem rn_step {fr1:Frame} {w1:World} (h:∀ (cs:List Frame) (τ:Nat->Question->Nat),step P (lone fr cs (Rt w τ)) = .next (lone fr1 cs (Rt w1 τ))) (hn:Rn P Q fr1 w1):Rn P Q fr w:=by
  obtain ⟨fr',w',hq,hr⟩:=hn
  refine ⟨fr',w',hq,fun cs τ=>?_⟩
  obtain ⟨m,e⟩:=hr cs τ
  exact ⟨m+1,by simp only [runN,h];exact e⟩
theorem rn_mv {fr1:Frame} (h:∀ cs,Mv P (Gr fr cs) (Gr fr1 cs)) (hn:Rn P Q fr1 w):Rn P Q fr w:=rn_step (fun cs τ=>lone_step (h cs _)) hn
theorem ev_tmpN {t:Nat} {v:Value} (h:tmps.getD t undef=v):(fmN fn tmps []).eval (.tmp t)=v:=h
theorem n_block {id:Nat} {a:Code} {cs:List Frame}:Mv P (Gr (fmN fn tmps (.code (.block id a)::k)) cs) (Gr (fmN fn tmps (.code a::.inBlock id::k)) cs):=fun _=>rfl
theorem n_loop {a:Code} {cs:List Frame}:Mv P (Gr (fmN fn tmps (.code (.loop a)::k)) cs) (Gr (fmN fn tmps (.code a::.inLoop a::k)) cs):=fun _=>rfl
theorem n_inLoop {a:Code} {cs:List Frame}:Mv P (Gr (fmN fn tmps (.inLoop a::k)) cs) (Gr (fmN fn tmps (.code a::.inLoop a::k)) cs):=fun _=>rfl
theorem n_skip {cs:List Frame}:Mv P (Gr (fmN fn tmps (.code .skip::k)) cs) (Gr (fmN fn tmps k) cs):=fun _=>rfl
theorem n_cond {x:Operand} {a b:Code} {v:Bool} {cs:List Frame} (hv:(fmN fn tmps []).eval x = .bool v):Mv P (Gr (fmN fn tmps (.code (.cond x a b)::k)) cs) (Gr (fmN fn tmps (.code (if v then a else b)::k)) cs):=fun w=>by
  have hv':∀ t,(fmN fn tmps t).eval x = .bool v:=fun t=>hv
  simp [stepG,stepG.exec,hv']
theorem n_exit {id:Nat} {k':List Item} {cs:List Frame} (he:exitTo id k=some k'):Mv P (Gr (fmN fn tmps (.code (.exit id)::k)) cs) (Gr (fmN fn tmps k') cs):=fun w=>by
  simp [stepG,stepG.exec,he]
theorem rn_op {ops:Array Oper} {i d:Nat} {r:List Nat} {o:Oper} {v:Value} (ho:ops[i]?=some o) (hg:o.guard=none) (hd:o.dst=some d) (hv:∀ w es,(execOp (fmN fn tmps []).eval o).runT P w es=(.ok (.value v) w,es)) (h:Rn P Q (fmN fn (tmps.setIfInBounds d v) (.inRegion ops r::k)) w):Rn P Q (fmN fn tmps (.inRegion ops (i::r)::k)) w:=rn_mv (n_op ho hg hd hv) h
theorem run_bin {op:BinOp} {x y:Operand} {a b:Int} {v:Value} {o:Oper} (hop:o.op = .binOp op 3 x y 3) (hx:(fmN fn tmps []).eval x = .int .i64 a) (hy:(fmN fn tmps []).eval y = .int .i64 b)
    (hv:(op = .add/\v = .int .i64 (IntKind.i64.wrap (a+b)))\/(op = .mul/\v = .int .i64 (IntKind.i64.wrap (a*b)))\/(op = .lss/\v = .bool (a<b))\/(op = .quo/\b ≠ 0/\v = .int .i64 (IntKind.i64.wrap (a.tdiv b)))\/(op = .rem/\b ≠ 0/\v = .int .i64 (a.tmod b))) (w:World) (es:Array Event):(execOp (fmN fn tmps []).eval o).runT P w es=(.ok (.value v) w,es):=by
  unfold execOp
  rw [hop]
  dsimp only
  rw [hx,hy]
  rcases hv with ⟨rfl,rfl⟩ | ⟨rfl,rfl⟩ | ⟨rfl,rfl⟩ | ⟨rfl,hb,rfl⟩ | ⟨rfl,hb,rfl⟩
  · rfl
  · rfl
  · rfl
  · show Sem.runT P (do let v <-Op.intDiv .quo .i64 a b;pure (Next.value v)) w es=_
    unfold Op.intDiv
    rw [if_neg hb]
    rfl
  · show Sem.runT P (do let v <-Op.intDiv .rem .i64 a b;pure (Next.value v)) w es=_
    unfold Op.intDiv
    rw [if_neg hb]
    rfl
theorem wrapN (a:Nat) (h:a<=1000000):IntKind.i64.wrap (a:Int)=(a:Int):=IntWalk.i64_in _ ⟨by omega,by omega⟩
theorem rn_lss {ops:Array Oper} {i d:Nat} {r:List Nat} {o:Oper} {x y:Operand} {a b:Int} (ho:ops[i]?=some o) (hg:o.guard=none) (hd:o.dst=some d) (hop:o.op = .binOp .lss 3 x y 3) (hx:(fmN fn tmps []).eval x = .int .i64 a) (hy:(fmN fn tmps []).eval y = .int .i64 b) (h:Rn P Q (fmN fn (tmps.setIfInBounds d (.bool (a<b))) (.inRegion ops r::k)) w):Rn P Q (fmN fn tmps (.inRegion ops (i::r)::k)) w:=
  rn_op ho hg hd (run_bin hop hx hy (.inr (.inr (.inl ⟨rfl,rfl⟩)))) h
theorem rn_add {ops:Array Oper} {i d:Nat} {r:List Nat} {o:Oper} {x y:Operand} {a b:Nat} (ho:ops[i]?=some o) (hg:o.guard=none) (hd:o.dst=some d) (hop:o.op = .binOp .add 3 x y 3) (hx:(fmN fn tmps []).eval x = .int .i64 (a:Int)) (hy:(fmN fn tmps []).eval y = .int .i64 (b:Int)) (hs:a+b<=1000000) (h:Rn P Q (fmN fn (tmps.setIfInBounds d (.int .i64 ((a+b:Nat):Int))) (.inRegion ops r::k)) w):Rn P Q (fmN fn tmps (.inRegion ops (i::r)::k)) w:=by
  refine rn_op ho hg hd (run_bin hop hx hy (.inl ⟨rfl,rfl⟩)) ?_
  rw [show ((a:Int)+(b:Int))=((a+b:Nat):Int) by omega,wrapN _ hs]
  exact h
theorem rn_mul {ops:Array Oper} {i d:Nat} {r:List Nat} {o:Oper} {x y:Operand} {a b:Nat} (ho:ops[i]?=some o) (hg:o.guard=none) (hd:o.dst=some d) (hop:o.op = .binOp .mul 3 x y 3) (hx:(fmN fn tmps []).eval x = .int .i64 (a:Int)) (hy:(fmN fn tmps []).eval y = .int .i64 (b:Int)) (hs:a*b<=1000000) (h:Rn P Q (fmN fn (tmps.setIfInBounds d (.int .i64 ((a*b:Nat):Int))) (.inRegion ops r::k)) w):Rn P Q (fmN fn tmps (.inRegion ops (i::r)::k)) w:=by
  refine rn_op ho hg hd (run_bin hop hx hy (.inr (.inl ⟨rfl,rfl⟩))) ?_
  rw [show ((a:Int)*(b:Int))=((a*b:Nat):Int) by simp,wrapN _ hs]
  exact h
theorem rn_quo {ops:Array Oper} {i d:Nat} {r:List Nat} {o:Oper} {x y:Operand} {a b:Nat} (ho:ops[i]?=some o) (hg:o.guard=none) (hd:o.dst=some d) (hop:o.op = .binOp .quo 3 x y 3) (hx:(fmN fn tmps []).eval x = .int .i64 (a:Int)) (hy:(fmN fn tmps []).eval y = .int .i64 (b:Int)) (hs:0<b/\a<=1000000) (h:Rn P Q (fmN fn (tmps.setIfInBounds d (.int .i64 ((a / b:Nat):Int))) (.inRegion ops r::k)) w):Rn P Q (fmN fn tmps (.inRegion ops (i::r)::k)) w:=by
  refine rn_op ho hg hd (run_bin hop hx hy (.inr (.inr (.inr (.inl ⟨rfl,by omega,rfl⟩))))) ?_
  rw [show ((a:Int).tdiv (b:Int))=((a / b:Nat):Int) by simp,wrapN _ (Nat.le_trans (Nat.div_le_self _ _) hs.2)]
  exact h
theorem rn_rem {ops:Array Oper} {i d:Nat} {r:List Nat} {o:Oper} {x y:Operand} {a b:Nat} (ho:ops[i]?=some o) (hg:o.guard=none) (hd:o.dst=some d) (hop:o.op = .binOp .rem 3 x y 3) (hx:(fmN fn tmps []).eval x = .int .i64 (a:Int)) (hy:(fmN fn tmps []).eval y = .int .i64 (b:Int)) (hs:0<b) (h:Rn P Q (fmN fn (tmps.setIfInBounds d (.int .i64 ((a % b:Nat):Int))) (.inRegion ops r::k)) w):Rn P Q (fmN fn tmps (.inRegion ops (i::r)::k)) w:=by
  refine rn_op ho hg hd (run_bin hop hx hy (.inr (.inr (.inr (.inr ⟨rfl,by omega,rfl⟩))))) ?_
  rw [show ((a:Int).tmod (b:Int))=((a % b:Nat):Int) from rfl]
  exact h
theorem rn_min {ops:Array Oper} {i d:Nat} {r:List Nat} {o:Oper} {x y:Operand} {ts:Array TypeId} {a b:Nat} (ho:ops[i]?=some o) (hg:o.guard=none) (hd:o.dst=some d) (hop:o.op = .call { callee:=.builtin .min,args:=#[x,y],argTypes:=ts }) (hx:(fmN fn tmps []).eval x = .int .i64 (a:Int)) (hy:(fmN fn tmps []).eval y = .int .i64 (b:Int))
    (h:Rn P Q (fmN fn (tmps.setIfInBounds d (.int .i64 ((min a b:Nat):Int))) (.inRegion ops r::k)) w):Rn P Q (fmN fn tmps (.inRegion ops (i::r)::k)) w:=by
  refine rn_op ho hg hd (fun w es=>?_) h
  unfold execOp
  rw [hop]
  show Sem.runT P (do let v <-Builtin.min_ ts o.type (#[x,y].map (fmN fn tmps []).eval);pure (Next.value v)) w es=_
  have e:(#[x,y].map (fmN fn tmps []).eval)=#[.int .i64 (a:Int),.int .i64 (b:Int)]:=by simp [hx,hy]
  rw [e]
  show (Result.ok (Next.value (.int .i64 (if (b:Int)<(a:Int) then (b:Int) else (a:Int)))) w,es)=_
  rw [show (if (b:Int)<(a:Int) then (b:Int) else (a:Int))=((min a b:Nat):Int) by split <;> omega]
theorem rn_send {ops:Array Oper} {i c cap s r0:Nat} {r:List Nat} {o:Oper} {x y:Operand} {v:Value} {buf:Array Value} (ho:ops[i]?=some o) (hg:o.guard=none) (hd:o.dst=none) (hop:o.op = .send x y) (hx:(fmN fn tmps []).eval x = .chan (some c)) (hy:(fmN fn tmps []).eval y=v) (hc:w.heap[c]?=some (.chan cap buf false s r0 false)) (hroom:buf.size<cap)
    (h:Rn P Q (fmN fn tmps (.inRegion ops r::k)) (w.setChan c cap (buf.push v) false (s+1) r0 false)):Rn P Q (fmN fn tmps (.inRegion ops (i::r)::k)) w:=by
  have hw:Region.wanted o (yielded ops tmps)=true:=by unfold Region.wanted;rw [hg]
  refine rn_step (fun cs τ=>?_) h
  have hst:stepG P true (G (fmN fn tmps (.inRegion ops (i::r)::k)) cs) (Rt w τ) = .comm (G (fmN fn tmps (.inRegion ops (i::r)::k)) cs) #[scase c v (.tuple #[])] true .send (Rt w τ) #[]:=by
    show stepG P true (Gr (fmN fn tmps (.inRegion ops (i::r)::k)) cs) (Rt w τ)=_
    rw [step_op (fr:=fmN fn tmps (.inRegion ops (i::r)::k)) rfl rfl rfl ho hw]
    have hv':(execOp (fmN fn tmps (.inRegion ops (i::r)::k)).eval o).runT P (Rt w τ) #[]=(.ok (.comm #[scase c v (.tuple #[])] true .send) (Rt w τ),#[]):=by
      unfold execOp
      rw [hop]
      show (_,_)=_
      have e1:(fmN fn tmps (.inRegion ops (i::r)::k)).eval x = .chan (some c):=hx
      have e2:(fmN fn tmps (.inRegion ops (i::r)::k)).eval y=v:=hy
      rw [e1,e2]
      rfl
    simp [-Sem.runT_eq,stepG.apply,hv',GStep.after,seen,G]
  have:=step_lone_send_room hst (show (Rt w τ).heap[c]?=_ from hc) hroom
  rw [lone_eq_solo,this,lone_eq_solo]
  simp [Frame.finish,ho,hd]
  rfl
theorem rn_close {ops:Array Oper} {i d c cap s r0:Nat} {o:Oper} {ts:Array TypeId} {buf:Array Value} (ho:ops[i]?=some o) (hg:o.guard=none) (hd:o.dst=none) (hop:o.op = .call { callee:=.builtin .close,args:=#[.tmp d],argTypes:=ts }) (hx:tmps.getD d undef = .chan (some c)) (hc:w.heap[c]?=some (.chan cap buf false s r0 false))
    (h:Rn P Q (fmN fn tmps (.inRegion ops []::k)) (w.setChan c cap buf true s r0 false)):Rn P Q (fmN fn tmps (.inRegion ops [i]::k)) w:=by
  have hw:Region.wanted o (yielded ops tmps)=true:=by unfold Region.wanted;rw [hg]
  refine rn_step (fun cs τ=>?_) h
  have hv':(execOp (fmN fn tmps (.inRegion ops [i]::k)).eval o).runT P (Rt w τ) #[]=(.ok (.value (.tuple #[])) ((Rt w τ).setChan c cap buf true s r0 false),closeEvents c):=by
    unfold execOp
    rw [hop]
    have e1:(fmN fn tmps (.inRegion ops [i]::k)).eval (.tmp d) = .chan (some c):=hx
    show Sem.runT P (do let v <-Builtin.close_ ts o.type (#[Operand.tmp d].map (fmN fn tmps (.inRegion ops [i]::k)).eval);pure (Next.value v)) (Rt w τ) #[]=_
    have e3:(#[Operand.tmp d].map (fmN fn tmps (.inRegion ops [i]::k)).eval)=#[.chan (some c)]:=by simp [e1]
    rw [e3]
    have e4:Builtin.close_ ts o.type #[.chan (some c)]=(do
        let .chan room buf closed sent received timer <-getObj c | stuck "close: no channel in this block"
        if closed then runtimePanic (.plain "close of closed channel")
        setObj c (.chan room buf true sent received timer)
        pure (.tuple #[])):=rfl
    rw [e4]
    have hc':(Rt w τ).heap[c]?=some (.chan cap buf false s r0 false):=hc
    simp [-Sem.runT_eq,getObj,setObj,bind,Sem.bind,pure,Sem.runT,hc',closeEvents,World.setChan,Obj.isChan]
  refine lone_step (es:=seen P fn (closeEvents c)) ?_
  rw [step_op (fr:=fmN fn tmps (.inRegion ops [i]::k)) rfl rfl rfl ho hw]
  simp [-Sem.runT_eq,stepG.apply,hv',GStep.after,Frame.finish,ho,hd]
  rfl
theorem alloc_set {o:Obj} {cap s r:Nat} {buf:Array Value} {cl tm:Bool}:(w.alloc o).setChan w.heap.size cap buf cl s r tm=w.alloc (.chan cap buf cl s r tm):=by
  unfold World.setChan
  show { w with heap:=(w.heap.push o).setIfInBounds w.heap.size _ } = { w with heap:=w.heap.push _ }
  congr 1
  apply Array.ext'
  simp [Array.setIfInBounds,Array.toList_push]
theorem alloc_get {o:Obj}:(w.alloc o).heap[w.heap.size]?=some o:=by
  show (w.heap.push o)[w.heap.size]?=_
  simp
end
end Go.Proofs.YteaieagkjepgiaaGreatDoor
/- . -/
namespace Go.Proofs.YteaieagkjepgiaaGreatDoor
set_option maxRecDepth 100000
open Go.Conc
theorem sim_same {w w₁:World} (h:Sim none w w₁) (ht:w₁.tape=w.tape) (hd:w₁.drawn=w.drawn):w₁=w:=by
  have a1:=h.heap
  have a2:=h.os
  have a3:=h.output
  obtain ⟨hp,tp,dr,os,out⟩:=w₁
  simp only at a1 a2 a3 ht hd
  subst a1 a2 a3 ht hd
  rfl
theorem run_cellT (a b u t:Int) (w:World) (es:Array Event):Sem.runT tw (do let v <-Instr.build 76 #[(0,.int .i64 a),(1,.int .i64 b),(2,.int .i64 u),(3,.int .i64 t)];pure (Next.value v)) w es=(.ok (.value (cellV a b u t)) w,es):=by
  have h:=tame_run (y:=none) (T:=Tryz.prog.toTables) (f:=Tryz.prog.funcs) (g:=twF) _ w w es (okv (S:=[]) (t_build 76 #[(0,.int .i64 a),(1,.int .i64 b),(2,.int .i64 u),(3,.int .i64 t)])) (Sim.refl w)
  have e0:=run_cell a b u t w es
  rcases h with ⟨x,w',k,es',e,_,t1,d1,_,_,q⟩ | ⟨x,w',k,es',e,_⟩
  · rw [show (⟨Tryz.prog.toTables,Tryz.prog.funcs⟩:Program)=Tryz.prog from rfl,e0] at e
    cases e
    have hk:k=0:=by omega
    subst hk
    obtain ⟨w₁',e',s',t',d',_⟩:=q (fun i hi=>by omega)
    have:=sim_same s' t' (by rw [d'];rfl)
    subst this
    exact e'
  · rw [show (⟨Tryz.prog.toTables,Tryz.prog.funcs⟩:Program)=Tryz.prog from rfl,e0] at e
    cases e
section
variable {Q:Frame->World->Prop} {fn:FuncId} {tmps:Array Value} {k:List Item} {w:World}
theorem rn_cell {ops:Array Oper} {i d:Nat} {r:List Nat} {o:Oper} {a b u t:Int} (ho:ops[i]?=some o) (hg:o.guard=none) (hd:o.dst=some d) (hop:o.op = .build 76 #[(0,.tmp 7),(1,.tmp 19),(2,.tmp 13),(3,.tmp 17)]) (h1:tmps.getD 7 undef = .int .i64 a) (h2:tmps.getD 19 undef = .int .i64 b) (h3:tmps.getD 13 undef = .int .i64 u) (h4:tmps.getD 17 undef = .int .i64 t)
    (h:Rn tw Q (fmN fn (tmps.setIfInBounds d (cellV a b u t)) (.inRegion ops r::k)) w):Rn tw Q (fmN fn tmps (.inRegion ops (i::r)::k)) w:=by
  refine rn_op ho hg hd (fun w es=>?_) h
  unfold execOp
  rw [hop]
  dsimp only
  have e:(#[((0:Nat),Operand.tmp 7),(1,.tmp 19),(2,.tmp 13),(3,.tmp 17)].map fun (x:Nat × Operand)=>(x.1,(fmN fn tmps []).eval x.2))=#[(0,.int .i64 a),(1,.int .i64 b),(2,.int .i64 u),(3,.int .i64 t)]:=by
    simp [ev_tmpN h1,ev_tmpN h2,ev_tmpN h3,ev_tmpN h4]
  rw [e]
  exact run_cellT a b u t w es
theorem placeX_is {s:Int} {i:Nat} (hs:schOk s=true) (hi:i<=100):(placeX s (i:Nat)).2.1=i % (schK s*8) / 4 % schK s/\(placeX s (i:Nat)).2.2=i % (schK s*8) / 4 / schK s*4+i % (schK s*8) % 4:=by
  unfold placeX
  rw [if_pos ⟨hs,by omega,by omega⟩]
  exact ⟨rfl,rfl⟩
def Tend (w:World) (vs:List Value) (fr':Frame) (w':World):Prop:=fr'.fn=43/\fr'.mode = .returning/\fr'.defers=[]/\fr'.kind = .normal/\fr'.tmps.getD 2 undef = .chan (some w.heap.size)/\∃ m,w'=w.alloc (.chan 32 vs.toArray true m 0 false)
theorem twin_end (w:World) (vs:List Value) (m:Nat) (tmps:Array Value) (t2:tmps.getD 2 undef = .chan (some w.heap.size)):Rn tw (Tend w vs) (fmN 43 tmps [.code (.seq (.region 3 K3 false) .ret)]) (w.alloc (.chan 32 vs.toArray false m 0 false)):=by
  refine rn_mv (fun _=>n_seq) (rn_mv (fun _=>n_region (l:=[0]) rfl) ?_)
  refine rn_close (o:={ dst:=none,op:=.call { callee:=.builtin .close,args:=#[.tmp 2],argTypes:=#[96] },type:=3,pos:="",after:=#[],guard:=none }) rfl rfl rfl rfl t2 alloc_get ?_
  rw [alloc_set]
  refine rn_mv (fun _=>n_done) (rn_mv (fun _=>n_ret) (rn_here ?_))
  exact ⟨rfl,rfl,rfl,rfl,t2,m,rfl⟩
theorem twin_loop (s:Int) (n:Nat) (hn:n<=32) (hs:schOk s=true) (w:World):∀ (fuel i m:Nat) (pre:List Value) (tmps:Array Value),n<=i+4*fuel->pre.length*4=i->i<=36->tmps.size=21->tmps.getD 1 undef = .int .i64 (n:Int)->tmps.getD 2 undef = .chan (some w.heap.size)->tmps.getD 7 undef = .int .i64 ((i:Nat):Int)->tmps.getD 9 undef = .int .i64 ((schK s:Nat):Int)->tmps.getD 10 undef = .int .i64 ((schK s*8:Nat):Int) ->
    Rn tw (Tend w (pre++cellsF s n fuel i)) (fmN 43 tmps [.code KLc,.inLoop KLc,.inBlock 0,.code (.seq (.region 3 K3 false) .ret)]) (w.alloc (.chan 32 pre.toArray false m 0 false)):=by
  have hk:2<=schK s/\schK s<=4:=by
    rcases sch_cases hs with rfl | rfl | rfl <;> simp [schK]
  intro fuel
  induction fuel with
  | zero =>
    intro i m pre tmps hf hp hi hsz t1 t2 t7 t9 t10
    have hlt:¬ ((i:Nat):Int)<((n:Nat):Int):=by omega
    rw [show pre++cellsF s n 0 i=pre by simp [cellsF]]
    unfold KLc
    refine rn_mv (fun _=>n_seq) (rn_mv (fun _=>n_seq) (rn_mv (fun _=>n_region (l:=[0]) rfl) ?_))
    refine rn_lss (o:={ dst:=some 8,op:=.binOp .lss 3 (.tmp 7) (.tmp 1) 3,type:=3,pos:="",after:=#[],guard:=none }) rfl rfl rfl rfl (ev_tmpN t7) (ev_tmpN t1) ?_
    refine rn_mv (fun _=>n_done) (rn_mv (fun _=>n_cond (v:=false) (ev_tmpN (by simp [-Array.getD_eq_getD_getElem?,getD_set, *]))) ?_)
    refine rn_mv (fun _=>n_exit (k':=[.code (.seq (.region 3 K3 false) .ret)]) rfl) ?_
    exact twin_end w pre m _ (by simp [-Array.getD_eq_getD_getElem?,getD_set, *])
  | succ fuel ih =>
    intro i m pre tmps hf hp hi hsz t1 t2 t7 t9 t10
    by_cases hlt:i<n
    · have hlt':((i:Nat):Int)<((n:Nat):Int):=by omega
      obtain ⟨px1,px2⟩:=placeX_is hs (show i<=100 by omega)
      rw [show pre++cellsF s n (fuel+1) i=(pre++[cellV (i:Nat) (min (i+4) n:Nat) ((placeX s (i:Nat)).2.1:Nat) ((placeX s (i:Nat)).2.2:Nat)])++cellsF s n fuel (i+4) by rw [cellsF,if_pos hlt];simp,px1,px2]
      have ih':=fun tmps=>ih (i+4) (m+1) (pre++[cellV (i:Nat) (min (i+4) n:Nat) ((i % (schK s*8) / 4 % schK s:Nat):Int) ((i % (schK s*8) / 4 / schK s*4+i % (schK s*8) % 4:Nat):Int)]) tmps (by omega) (by simp;omega) (by omega)
      clear ih px1 px2
      have hroom:pre.length<32:=by omega
      generalize schK s=k at *
      have hb:i % (k*8)<32:=Nat.lt_of_lt_of_le (Nat.mod_lt _ (by omega)) (by omega)
      have hq:i % (k*8) / 4 / k*4<=1000:=Nat.le_trans (Nat.mul_le_mul_right _ (Nat.le_trans (Nat.div_le_self _ _) (Nat.div_le_self _ _))) (by omega)
      have hr4:i % (k*8) % 4<4:=Nat.mod_lt _ (by omega)
      have hk8:0<k*8:=by omega
      unfold KLc
      refine rn_mv (fun _=>n_seq) (rn_mv (fun _=>n_seq) (rn_mv (fun _=>n_region (l:=[0]) rfl) ?_))
      refine rn_lss (o:={ dst:=some 8,op:=.binOp .lss 3 (.tmp 7) (.tmp 1) 3,type:=3,pos:="",after:=#[],guard:=none }) rfl rfl rfl rfl (ev_tmpN t7) (ev_tmpN t1) ?_
      refine rn_mv (fun _=>n_done) (rn_mv (fun _=>n_cond (v:=true) (ev_tmpN (by simp [-Array.getD_eq_getD_getElem?,getD_set, *]))) ?_)
      refine rn_mv (fun _=>n_skip) (rn_mv (fun _=>n_region (l:=[0,1,2,3,4,5,6,7,8,9,10,11]) rfl) ?_)
      refine rn_rem (a:=i) (b:=k*8) (o:={ dst:=some 11,op:=.binOp .rem 3 (.tmp 7) (.tmp 10) 3,type:=3,pos:="",after:=#[],guard:=none }) rfl rfl rfl rfl (ev_tmpN (by simp [-Array.getD_eq_getD_getElem?,getD_set, *])) (ev_tmpN (by simp [-Array.getD_eq_getD_getElem?,getD_set, *])) (by omega) ?_
      refine rn_quo (a:=i % (k*8)) (b:=4) (o:={ dst:=some 12,op:=.binOp .quo 3 (.tmp 11) (.const (.int .i64 4)) 3,type:=3,pos:="",after:=#[],guard:=none }) rfl rfl rfl rfl (ev_tmpN (by simp [-Array.getD_eq_getD_getElem?,getD_set, *])) rfl (by omega) ?_
      refine rn_rem (a:=i % (k*8) / 4) (b:=k) (o:={ dst:=some 13,op:=.binOp .rem 3 (.tmp 12) (.tmp 9) 3,type:=3,pos:="",after:=#[],guard:=none }) rfl rfl rfl rfl (ev_tmpN (by simp [-Array.getD_eq_getD_getElem?,getD_set, *])) (ev_tmpN (by simp [-Array.getD_eq_getD_getElem?,getD_set, *])) (by omega) ?_
      refine rn_quo (a:=i % (k*8) / 4) (b:=k) (o:={ dst:=some 14,op:=.binOp .quo 3 (.tmp 12) (.tmp 9) 3,type:=3,pos:="",after:=#[],guard:=none }) rfl rfl rfl rfl (ev_tmpN (by simp [-Array.getD_eq_getD_getElem?,getD_set, *])) (ev_tmpN (by simp [-Array.getD_eq_getD_getElem?,getD_set, *])) (by omega) ?_
      refine rn_mul (a:=i % (k*8) / 4 / k) (b:=4) (o:={ dst:=some 15,op:=.binOp .mul 3 (.tmp 14) (.const (.int .i64 4)) 3,type:=3,pos:="",after:=#[],guard:=none }) rfl rfl rfl rfl (ev_tmpN (by simp [-Array.getD_eq_getD_getElem?,getD_set, *])) rfl (by omega) ?_
      refine rn_rem (a:=i % (k*8)) (b:=4) (o:={ dst:=some 16,op:=.binOp .rem 3 (.tmp 11) (.const (.int .i64 4)) 3,type:=3,pos:="",after:=#[],guard:=none }) rfl rfl rfl rfl (ev_tmpN (by simp [-Array.getD_eq_getD_getElem?,getD_set, *])) rfl (by omega) ?_
      refine rn_add (a:=i % (k*8) / 4 / k*4) (b:=i % (k*8) % 4) (o:={ dst:=some 17,op:=.binOp .add 3 (.tmp 15) (.tmp 16) 3,type:=3,pos:="",after:=#[],guard:=none }) rfl rfl rfl rfl (ev_tmpN (by simp [-Array.getD_eq_getD_getElem?,getD_set, *])) (ev_tmpN (by simp [-Array.getD_eq_getD_getElem?,getD_set, *])) (by omega) ?_
      refine rn_add (a:=i) (b:=4) (o:={ dst:=some 18,op:=.binOp .add 3 (.tmp 7) (.const (.int .i64 4)) 3,type:=3,pos:="",after:=#[],guard:=none }) rfl rfl rfl rfl (ev_tmpN (by simp [-Array.getD_eq_getD_getElem?,getD_set, *])) rfl (by omega) ?_
      refine rn_min (a:=i+4) (b:=n) (o:={ dst:=some 19,op:=.call { callee:=.builtin .min,args:=#[.tmp 18,.tmp 1],argTypes:=#[3,3] },type:=3,pos:="",after:=#[],guard:=none }) rfl rfl rfl rfl (ev_tmpN (by simp [-Array.getD_eq_getD_getElem?,getD_set, *])) (ev_tmpN (by simp [-Array.getD_eq_getD_getElem?,getD_set, *])) ?_
      refine rn_cell (a:=((i:Nat):Int)) (b:=((min (i+4) n:Nat):Int)) (u:=((i % (k*8) / 4 % k:Nat):Int)) (t:=((i % (k*8) / 4 / k*4+i % (k*8) % 4:Nat):Int)) (o:={ dst:=some 20,op:=.build 76 #[(0,.tmp 7),(1,.tmp 19),(2,.tmp 13),(3,.tmp 17)],type:=76,pos:="",after:=#[],guard:=none }) rfl rfl rfl rfl (by simp [-Array.getD_eq_getD_getElem?,getD_set, *]) (by simp [-Array.getD_eq_getD_getElem?,getD_set, *]) (by simp [-Array.getD_eq_getD_getElem?,getD_set, *]) (by simp [-Array.getD_eq_getD_getElem?,getD_set, *]) ?_
      refine rn_send (c:=w.heap.size) (v:=cellV (i:Nat) (min (i+4) n:Nat) ((i % (k*8) / 4 % k:Nat):Int) ((i % (k*8) / 4 / k*4+i % (k*8) % 4:Nat):Int)) (o:={ dst:=none,op:=.send (.tmp 2) (.tmp 20),type:=3,pos:="",after:=#[],guard:=none }) rfl rfl rfl rfl (ev_tmpN (by simp [-Array.getD_eq_getD_getElem?,getD_set, *])) (ev_tmpN (by simp [-Array.getD_eq_getD_getElem?,getD_set, *])) alloc_get (by simpa using hroom) ?_
      rw [alloc_set]
      refine rn_mv (n_move (v:=.int .i64 ((i+4:Nat):Int)) (o:={ dst:=some 7,op:=.assign (.tmp 18),type:=3,pos:="",after:=#[],guard:=none }) rfl rfl rfl (.inr rfl) (by simp [-Array.getD_eq_getD_getElem?,getD_set, *])) ?_
      refine rn_mv (fun _=>n_done) (rn_mv (fun _=>n_inLoop) ?_)
      rw [show pre.toArray.push (cellV (i:Nat) (min (i+4) n:Nat) ((i % (k*8) / 4 % k:Nat):Int) ((i % (k*8) / 4 / k*4+i % (k*8) % 4:Nat):Int))=(pre++[cellV (i:Nat) (min (i+4) n:Nat) ((i % (k*8) / 4 % k:Nat):Int) ((i % (k*8) / 4 / k*4+i % (k*8) % 4:Nat):Int)]).toArray by simp]
      refine ih' _ (by simp [*]) ?_ ?_ ?_ ?_ ?_
      all_goals simp [-Array.getD_eq_getD_getElem?,getD_set, *]
    · have hlt':¬ ((i:Nat):Int)<((n:Nat):Int):=by omega
      rw [show pre++cellsF s n (fuel+1) i=pre by rw [cellsF,if_neg hlt];simp]
      unfold KLc
      refine rn_mv (fun _=>n_seq) (rn_mv (fun _=>n_seq) (rn_mv (fun _=>n_region (l:=[0]) rfl) ?_))
      refine rn_lss (o:={ dst:=some 8,op:=.binOp .lss 3 (.tmp 7) (.tmp 1) 3,type:=3,pos:="",after:=#[],guard:=none }) rfl rfl rfl rfl (ev_tmpN t7) (ev_tmpN t1) ?_
      refine rn_mv (fun _=>n_done) (rn_mv (fun _=>n_cond (v:=false) (ev_tmpN (by simp [-Array.getD_eq_getD_getElem?,getD_set, *]))) ?_)
      refine rn_mv (fun _=>n_exit (k':=[.code (.seq (.region 3 K3 false) .ret)]) rfl) ?_
      exact twin_end w pre m _ (by simp [-Array.getD_eq_getD_getElem?,getD_set, *])
end
end Go.Proofs.YteaieagkjepgiaaGreatDoor
/- . -/
namespace Go.Proofs.YteaieagkjepgiaaGreatDoor
set_option maxRecDepth 100000
open Go.Conc
theorem tw24:tw.funcs[43]?=some cellsT:=by
  show (Tryz.prog.funcs.setIfInBounds 43 cellsT)[43]?=_
  rw [Array.getElem?_setIfInBounds_self_of_lt]
  have:=(Array.getElem?_eq_some_iff.1 Tryz.func43).1
  exact this
theorem enterT (x y:Value):Frame.enter tw 43 #[x,y] .normal=fmN 43 (#[x,y]++Array.replicate 19 undef) [.code KBody]:=by
  have h:=tw24
  simp [Frame.enter,h,cellsT]
def Stk (w:World) (fr':Frame) (w':World):Prop:=w'=w/\∀ cs v,∃ o w' es,stepG tw true (Gr fr' cs) v = .ended o w' es
section
variable {fn:FuncId} {tmps:Array Value} {k:List Item} {w:World} {Q:Frame->World->Prop}
theorem stuck_op {ops:Array Oper} {i:Nat} {r:List Nat} {o:Oper} {h:Halt} (ho:ops[i]?=some o) (hg:o.guard=none) (hh:(∃ s,h = .stuck s)\/h = .unsupported .addressObserved) (hv:∀ v:World,(execOp (fmN fn tmps []).eval o).runT tw v #[]=(.halt h v,#[])):Stk w (fmN fn tmps (.inRegion ops (i::r)::k)) w:=by
  refine ⟨rfl,fun cs v=>?_⟩
  have hw:Region.wanted o (yielded ops tmps)=true:=by unfold Region.wanted;rw [hg]
  rw [step_op (fr:=fmN fn tmps (.inRegion ops (i::r)::k)) rfl rfl rfl ho hw]
  have hv':(execOp (fmN fn tmps (.inRegion ops (i::r)::k)).eval o).runT tw v #[]=(.halt h v,#[]):=hv v
  rcases hh with ⟨s,rfl⟩ | rfl
  · exact ⟨_,_,_,by simp [-Sem.runT_eq,stepG.apply,hv',GStep.after];exact ⟨rfl,rfl,rfl⟩⟩
  · exact ⟨_,_,_,by simp [-Sem.runT_eq,stepG.apply,hv',GStep.after];exact ⟨rfl,rfl,rfl⟩⟩
theorem bad_end (w:World):Rn tw (Stk w) (fmN fn tmps (.code KBad::k)) w:=by
  unfold KBad
  refine rn_mv (fun _=>n_region (l:=[0]) rfl) (rn_here ?_)
  exact stuck_op (o:={ dst:=some 2,op:=.extract (.const (.int .i64 0)) 0,type:=3,pos:="",after:=#[],guard:=none }) (h:=.stuck "Extract: tuple expected") rfl rfl (.inl ⟨_,rfl⟩) (fun v=>rfl)
theorem lss_bad {ops:Array Oper} {i:Nat} {r:List Nat} {o:Oper} {t:Nat} {b:Int} {x:Value} (ho:ops[i]?=some o) (hg:o.guard=none) (hop:o.op = .binOp .lss 3 (.tmp t) (.const (.int .i64 b)) 3) (hx:tmps.getD t undef=x) (hn:∀ a,x ≠ .int .i64 a) (w:World):Rn tw (Stk w) (fmN fn tmps (.inRegion ops (i::r)::k)) w:=by
  refine rn_here ?_
  have key:∃ h:Halt,((∃ s,h = .stuck s)\/h = .unsupported .addressObserved)/\∀ v:World,Sem.runT tw (do let v <-(do eqGuard .lss 3 (.tmp t) (.const (.int .i64 b)) x (.int .i64 b);binOp .lss 3 x (.int .i64 b));pure (Next.value v)) v #[]=(.halt h v,#[]):=by
    cases x with
    | int kd a=>cases kd <;> first | exact absurd rfl (hn a) | exact ⟨_,.inl ⟨_,rfl⟩,fun v=>rfl⟩
    | pointer p=>cases p <;> exact ⟨_,.inr rfl,fun v=>rfl⟩
    | _=>exact ⟨_,.inl ⟨_,rfl⟩,fun v=>rfl⟩
  obtain ⟨h,hh,hv⟩:=key
  refine stuck_op ho hg hh (fun v=>?_)
  unfold execOp
  rw [hop]
  dsimp only
  rw [ev_tmpN hx]
  exact hv v
theorem info48T:(tw.info? 76).map (fun i=>i.bytes)=some 32:=info48
theorem make_runT (v:World):Sem.runT tw (do let v <-Instr.makeChan 96 (.int .i64 32);pure (Next.value v)) v #[]=(.ok (.value (.chan (some v.heap.size))) (v.alloc (.chan 32 #[] false 0 0 false)),#[]):=by
  obtain ⟨i,hi,hb⟩:=Option.map_eq_some_iff.1 info48T
  have hu:tw.underlying 96=_:=Tryz.underlying96
  simp [-Sem.runT_eq,Instr.makeChan,asInt,asIntOf,underlying,typeInfo,newObj,bind,Sem.bind,pure,Sem.runT,program,hu,hi,hb]
theorem twin_good (s:Int) (n:Nat) (hn:n<=32) (hs:schOk s=true) (w:World):Rn tw (Tend w (cellsF s n 9 0)) (Frame.enter tw 43 #[.int .i64 s,.int .i64 (n:Int)] .normal) w:=by
  have hk:2<=schK s/\schK s<=4/\((schK s - 1:Nat):Int)=s:=by
    rcases sch_cases hs with rfl | rfl | rfl <;> simp [schK]
  obtain ⟨k1,k2,k3⟩:=hk
  rw [enterT]
  generalize htm:(#[.int .i64 s,.int .i64 (n:Int)]++Array.replicate 19 undef:Array Value)=tm
  have hsz:tm.size=21:=by rw [<-htm];simp
  have t0:tm.getD 0 undef = .int .i64 s:=by rw [<-htm];simp
  have t1:tm.getD 1 undef = .int .i64 (n:Int):=by rw [<-htm];simp
  clear htm
  have f1:((n:Nat):Int)<33:=by omega
  have f2:(-1:Int)<((n:Nat):Int):=by omega
  have f3:s<4:=by omega
  have f4:(0:Int)<s:=by omega
  unfold KBody
  refine rn_mv (fun _=>n_seq) (rn_mv (fun _=>n_region (l:=[0,1,2,3]) rfl) ?_)
  refine rn_lss (a:=((n:Nat):Int)) (b:=33) (o:={ dst:=some 3,op:=.binOp .lss 3 (.tmp 1) (.const (.int .i64 33)) 3,type:=3,pos:="",after:=#[],guard:=none }) rfl rfl rfl rfl (ev_tmpN t1) rfl ?_
  refine rn_lss (a:=-1) (b:=((n:Nat):Int)) (o:={ dst:=some 4,op:=.binOp .lss 3 (.const (.int .i64 (-1))) (.tmp 1) 3,type:=3,pos:="",after:=#[],guard:=none }) rfl rfl rfl rfl rfl (ev_tmpN (by simp [-Array.getD_eq_getD_getElem?,getD_set, *])) ?_
  refine rn_lss (a:=s) (b:=4) (o:={ dst:=some 5,op:=.binOp .lss 3 (.tmp 0) (.const (.int .i64 4)) 3,type:=3,pos:="",after:=#[],guard:=none }) rfl rfl rfl rfl (ev_tmpN (by simp [-Array.getD_eq_getD_getElem?,getD_set, *])) rfl ?_
  refine rn_lss (a:=0) (b:=s) (o:={ dst:=some 6,op:=.binOp .lss 3 (.const (.int .i64 0)) (.tmp 0) 3,type:=3,pos:="",after:=#[],guard:=none }) rfl rfl rfl rfl rfl (ev_tmpN (by simp [-Array.getD_eq_getD_getElem?,getD_set, *])) ?_
  refine rn_mv (fun _=>n_done) (rn_mv (fun _=>n_seq) ?_)
  refine rn_mv (fun _=>n_cond (v:=true) (ev_tmpN (by simp [-Array.getD_eq_getD_getElem?,getD_set, *]))) (rn_mv (fun _=>n_cond (v:=true) (ev_tmpN (by simp [-Array.getD_eq_getD_getElem?,getD_set, *]))) (rn_mv (fun _=>n_cond (v:=true) (ev_tmpN (by simp [-Array.getD_eq_getD_getElem?,getD_set, *]))) (rn_mv (fun _=>n_cond (v:=true) (ev_tmpN (by simp [-Array.getD_eq_getD_getElem?,getD_set, *]))) (rn_mv (fun _=>n_skip) (rn_mv (fun _=>n_seq) (rn_mv (fun _=>n_region (l:=[0,1,2,3]) rfl) ?_))))))
  generalize htm:(((tm.setIfInBounds 3 (.bool (decide (((n:Nat):Int)<33)))).setIfInBounds 4 (.bool (decide ((-1:Int)<((n:Nat):Int))))).setIfInBounds 5 (.bool (decide (s<4)))).setIfInBounds 6 (.bool (decide ((0:Int)<s)))=tn
  have hs2:tn.size=21:=by rw [<-htm];simp [hsz]
  have u0:tn.getD 0 undef = .int .i64 ((schK s - 1:Nat):Int):=by rw [<-htm,k3];simp [-Array.getD_eq_getD_getElem?,getD_set, *]
  have u1:tn.getD 1 undef = .int .i64 (n:Int):=by rw [<-htm];simp [-Array.getD_eq_getD_getElem?,getD_set, *]
  clear htm t0 t1 hsz k3 f3 f4
  refine rn_step (fr1:=fmN 43 (tn.setIfInBounds 2 (.chan (some w.heap.size))) [.inRegion K1 [1,2,3],.code (.seq (.block 0 (.loop KLc)) (.seq (.region 3 K3 false) .ret))]) (w1:=w.alloc (.chan 32 #[] false 0 0 false)) (fun cs τ=>?_) ?_
  · refine lone_step (es:=#[]) ?_
    rw [step_op (fr:=fmN 43 tn [.inRegion K1 [0,1,2,3],.code (.seq (.block 0 (.loop KLc)) (.seq (.region 3 K3 false) .ret))]) (o:={ dst:=some 2,op:=.makeChan 96 (.const (.int .i64 32)),type:=3,pos:="",after:=#[],guard:=none }) rfl rfl rfl rfl rfl]
    have hv':=make_runT (Rt w τ)
    have hv2:(execOp (fmN 43 tn [.inRegion K1 [0,1,2,3],.code (.seq (.block 0 (.loop KLc)) (.seq (.region 3 K3 false) .ret))]).eval ({ dst:=some 2,op:=.makeChan 96 (.const (.int .i64 32)),type:=3,pos:="",after:=#[],guard:=none }:Oper)).runT tw (Rt w τ) #[]=(.ok (.value (.chan (some w.heap.size))) (Rt (w.alloc (.chan 32 #[] false 0 0 false)) τ),#[]):=hv'
    have hK1:K1[0]?=some ({ dst:=some 2,op:=.makeChan 96 (.const (.int .i64 32)),type:=3,pos:="",after:=#[],guard:=none }:Oper):=rfl
    simp [-Sem.runT_eq,stepG.apply,hv2,GStep.after,seen,Frame.finish,hK1]
  refine rn_op (v:=.int .i64 0) (o:={ dst:=some 7,op:=.assign (.const (.int .i64 0)),type:=3,pos:="",after:=#[],guard:=none }) rfl rfl rfl (fun _ _=>rfl) ?_
  refine rn_add (a:=schK s - 1) (b:=1) (o:={ dst:=some 9,op:=.binOp .add 3 (.tmp 0) (.const (.int .i64 1)) 3,type:=3,pos:="",after:=#[],guard:=none }) rfl rfl rfl rfl (ev_tmpN (by simp [-Array.getD_eq_getD_getElem?,getD_set, *])) rfl (by omega) ?_
  rw [show schK s - 1+1=schK s by omega]
  refine rn_mul (a:=schK s) (b:=8) (o:={ dst:=some 10,op:=.binOp .mul 3 (.tmp 9) (.const (.int .i64 8)) 3,type:=3,pos:="",after:=#[],guard:=none }) rfl rfl rfl rfl (ev_tmpN (by simp [-Array.getD_eq_getD_getElem?,getD_set, *])) rfl (by omega) ?_
  refine rn_mv (fun _=>n_done) (rn_mv (fun _=>n_seq) (rn_mv (fun _=>n_block) (rn_mv (fun _=>n_loop) ?_)))
  have:=twin_loop s n hn hs w 9 0 0 [] (((((tn.setIfInBounds 2 (.chan (some w.heap.size))).setIfInBounds 7 (.int .i64 0)).setIfInBounds 9 (.int .i64 ((schK s:Nat):Int))).setIfInBounds 10 (.int .i64 ((schK s*8:Nat):Int)))) (by omega) rfl (by omega) (by simp [hs2]) (by simp [-Array.getD_eq_getD_getElem?,getD_set, *]) (by simp [-Array.getD_eq_getD_getElem?,getD_set, *]) (by simp [-Array.getD_eq_getD_getElem?,getD_set, *]) (by simp [-Array.getD_eq_getD_getElem?,getD_set, *]) (by simp [-Array.getD_eq_getD_getElem?,getD_set, *])
  exact this
theorem twin_any (x y:Value) (w:World):(∃ (s:Int) (n:Nat),x = .int .i64 s/\y = .int .i64 (n:Int)/\n<=32/\schOk s=true/\Rn tw (Tend w (cellsF s n 9 0)) (Frame.enter tw 43 #[x,y] .normal) w)\/Rn tw (Stk w) (Frame.enter tw 43 #[x,y] .normal) w:=by
  by_cases hg:∃ (s:Int) (n:Nat),x = .int .i64 s/\y = .int .i64 (n:Int)/\n<=32/\schOk s=true
  · obtain ⟨s,n,rfl,rfl,hn,hs⟩:=hg
    exact .inl ⟨s,n,rfl,rfl,hn,hs,twin_good s n hn hs w⟩
  refine .inr ?_
  rw [enterT]
  generalize htm:(#[x,y]++Array.replicate 19 undef:Array Value)=tm
  have hsz:tm.size=21:=by rw [<-htm];simp
  have t0:tm.getD 0 undef=x:=by rw [<-htm];simp
  have t1:tm.getD 1 undef=y:=by rw [<-htm];simp
  clear htm
  unfold KBody
  refine rn_mv (fun _=>n_seq) (rn_mv (fun _=>n_region (l:=[0,1,2,3]) rfl) ?_)
  by_cases hy:∃ b,y = .int .i64 b
  case neg=>exact lss_bad (o:={ dst:=some 3,op:=.binOp .lss 3 (.tmp 1) (.const (.int .i64 33)) 3,type:=3,pos:="",after:=#[],guard:=none }) rfl rfl rfl t1 (fun a e=>hy ⟨a,e⟩) w
  obtain ⟨b,rfl⟩:=hy
  refine rn_lss (a:=b) (b:=33) (o:={ dst:=some 3,op:=.binOp .lss 3 (.tmp 1) (.const (.int .i64 33)) 3,type:=3,pos:="",after:=#[],guard:=none }) rfl rfl rfl rfl (ev_tmpN t1) rfl ?_
  refine rn_lss (a:=-1) (b:=b) (o:={ dst:=some 4,op:=.binOp .lss 3 (.const (.int .i64 (-1))) (.tmp 1) 3,type:=3,pos:="",after:=#[],guard:=none }) rfl rfl rfl rfl rfl (ev_tmpN (by simp [-Array.getD_eq_getD_getElem?,getD_set, *])) ?_
  by_cases hx:∃ a,x = .int .i64 a
  case neg=>exact lss_bad (x:=x) (o:={ dst:=some 5,op:=.binOp .lss 3 (.tmp 0) (.const (.int .i64 4)) 3,type:=3,pos:="",after:=#[],guard:=none }) rfl rfl rfl (by simp [-Array.getD_eq_getD_getElem?,getD_set, *]) (fun a e=>hx ⟨a,e⟩) w
  obtain ⟨a,rfl⟩:=hx
  refine rn_lss (a:=a) (b:=4) (o:={ dst:=some 5,op:=.binOp .lss 3 (.tmp 0) (.const (.int .i64 4)) 3,type:=3,pos:="",after:=#[],guard:=none }) rfl rfl rfl rfl (ev_tmpN (by simp [-Array.getD_eq_getD_getElem?,getD_set, *])) rfl ?_
  refine rn_lss (a:=0) (b:=a) (o:={ dst:=some 6,op:=.binOp .lss 3 (.const (.int .i64 0)) (.tmp 0) 3,type:=3,pos:="",after:=#[],guard:=none }) rfl rfl rfl rfl rfl (ev_tmpN (by simp [-Array.getD_eq_getD_getElem?,getD_set, *])) ?_
  refine rn_mv (fun _=>n_done) (rn_mv (fun _=>n_seq) ?_)
  by_cases h1:b<33
  case neg=>exact rn_mv (fun _=>n_cond (v:=false) (ev_tmpN (by simp [-Array.getD_eq_getD_getElem?,getD_set, *]))) (bad_end w)
  refine rn_mv (fun _=>n_cond (v:=true) (ev_tmpN (by simp [-Array.getD_eq_getD_getElem?,getD_set, *]))) ?_
  by_cases h2:-1<b
  case neg=>exact rn_mv (fun _=>n_cond (v:=false) (ev_tmpN (by simp [-Array.getD_eq_getD_getElem?,getD_set, *]))) (bad_end w)
  refine rn_mv (fun _=>n_cond (v:=true) (ev_tmpN (by simp [-Array.getD_eq_getD_getElem?,getD_set, *]))) ?_
  by_cases h3:a<4
  case neg=>exact rn_mv (fun _=>n_cond (v:=false) (ev_tmpN (by simp [-Array.getD_eq_getD_getElem?,getD_set, *]))) (bad_end w)
  refine rn_mv (fun _=>n_cond (v:=true) (ev_tmpN (by simp [-Array.getD_eq_getD_getElem?,getD_set, *]))) ?_
  by_cases h4:0<a
  case neg=>exact rn_mv (fun _=>n_cond (v:=false) (ev_tmpN (by simp [-Array.getD_eq_getD_getElem?,getD_set, *]))) (bad_end w)
  exfalso
  refine hg ⟨a,b.toNat,rfl,congrArg (Value.int .i64) (by omega),by omega,?_⟩
  unfold schOk
  simp only [Bool.or_eq_true,decide_eq_true_eq]
  omega
end
section
variable {fr:Frame} {tops:List Frame} {w:World} {Fin:Frame->World->Prop}
theorem tm_ended {P:Program} (hne:tops ≠ []) (h:∀ cs v,∃ o w' es,stepG P true (Gr fr cs) v = .ended o w' es):¬ Tm2 P Fin fr tops w:=by
  intro hT
  obtain ⟨n,fr',w',e,_,_⟩:=hT w.tape (fun _ _=>rfl)
  cases n with
  | zero =>
    simp only [runN,lone,Stepped.next.injEq,Machine.mk.injEq] at e
    have e2:(Gr fr (tops++[sent P]))=(Gr fr' [sent P]):=by simpa using e.2.1
    injection e2 with e3 e4
    have:tops=[]:=by simpa using e4
    exact hne this
  | succ n =>
    obtain ⟨o,w3,es,hs⟩:=h (tops++[sent P]) (Rt w w.tape)
    simp only [runN,lone_ended hs] at e
    cases e
theorem callT {ok:Op->Bool} {S:List FuncId} {F:FuncId->List Lp} (hF:∀ x,∀ L ∈ F x,∃ o X Y ts,L.o5[L.o5.size - 1]?=some o/\o.guard=none/\o.op = .call { callee:=.value (.func 43),args:=#[X,Y],argTypes:=ts }):CallT Tryz.prog.toTables twF ok S F Vc:=by
  intro fr tops w L k hL ho hm hsz e
  obtain ⟨o,X,Y,ts,h1,h2,h4⟩:=hF _ L hL
  have hw:Region.wanted o (yielded L.o5 fr.tmps)=true:=by unfold Region.wanted;rw [h2]
  have hkd:=ho.kind
  have hcall:∀ cs v,stepG tw true (Gr fr cs) v = .go (Gr (Frame.enter tw 43 #[fr.eval X,fr.eval Y] .normal) (fr::cs)) v #[]:=by
    intro cs v
    rw [step_op (P:=tw) ho.round hm e h1 hw]
    have hv':(execOp fr.eval o).runT tw v #[]=(.ok (.enter 43 #[fr.eval X,fr.eval Y]) v,#[]):=by
      unfold execOp
      rw [h4]
      show (callFunc 43 (#[]++#[X,Y].map fr.eval++#[])).runT tw v #[]=_
      have e3:(#[]++#[X,Y].map fr.eval++#[])=#[fr.eval X,fr.eval Y]:=by simp
      rw [e3]
      exact run_callF tw24 rfl rfl _ _ _
    simp [-Sem.runT_eq,stepG.apply,hv',GStep.after,seen,hkd,e]
  rcases twin_any (fr.eval X) (fr.eval Y) w with ⟨s,n,hx,hy,hn,hs,fr',w',⟨q1,q2,q3,q4,q5,m0,q6⟩,hr⟩ | ⟨fr',w',⟨rfl,hst⟩,hr⟩
  · refine .inl ⟨cellsF s n 9 0,32,m0,⟨o,X,Y,ts,s,n,h1,h2,h4,hx,hy,hn,rfl⟩,rfl,rfl,fun τ _=>?_⟩
    obtain ⟨m,e1⟩:=hr (fr::(tops++[sent tw])) τ
    have hret:stepG tw true (Gr fr' (fr::(tops++[sent tw]))) (Rt w' τ) = .go (Gr (fr.finish (.chan (some w.heap.size))) (tops++[sent tw])) (Rt w' τ) #[]:=by
      have h:=tw24
      obtain ⟨fn',tmps,todo,defers,mode,kind,round⟩:=fr'
      simp only at q1 q2 q3 q4 q5
      subst q1 q2 q3 q4
      have hr2:(results cellsT tmps)=pure (.chan (some w.heap.size)):=by
        rw [<-q5]
        simp [-Array.getD_eq_getD_getElem?,results,cellsT]
      simp [-Array.getD_eq_getD_getElem?,stepG,unwind,h,hr2,doReturn,seen,GStep.after]
    refine ⟨m+1,?_⟩
    rw [show m+1+1=1+(m+1) by omega,runN_add]
    have e0:runN tw 1 (lone fr (tops++[sent tw]) (Rt w τ)) = .next (lone (Frame.enter tw 43 #[fr.eval X,fr.eval Y] .normal) (fr::(tops++[sent tw])) (Rt w τ)):=by
      simp only [runN]
      rw [lone_step (hcall _ _)]
    show (match runN tw 1 (lone fr (tops++[sent tw]) (Rt w τ)) with | .next m'=>runN tw (m+1) m' | r=>r)=_
    rw [e0]
    show runN tw (m+1) _=_
    rw [runN_add,e1]
    show runN tw 1 _=_
    simp only [runN]
    rw [lone_step hret,q6]
    rfl
  · refine .inr (fun Fin hT=>?_)
    have hl:Leap tw fr tops w' fr' (fr::tops) w':=by
      refine ⟨rfl,rfl,fun τ _=>?_⟩
      obtain ⟨m,e1⟩:=hr (fr::(tops++[sent tw])) τ
      refine ⟨m,?_⟩
      rw [show m+1=1+m by omega,runN_add]
      have e0:runN tw 1 (lone fr (tops++[sent tw]) (Rt w' τ)) = .next (lone (Frame.enter tw 43 #[fr.eval X,fr.eval Y] .normal) (fr::(tops++[sent tw])) (Rt w' τ)):=by
        simp only [runN]
        rw [lone_step (hcall _ _)]
      rw [e0]
      exact e1
    exact tm_ended (by simp) hst (tm_leap (T:=Tryz.prog.toTables) (f:=twF) hl hT)
end
end Go.Proofs.YteaieagkjepgiaaGreatDoor
