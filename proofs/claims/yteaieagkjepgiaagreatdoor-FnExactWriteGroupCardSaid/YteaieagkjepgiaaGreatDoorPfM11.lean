/- Texts of ours, laid one behind the other: SgJ. -/
import Derived.Test.YteaieagkjepgiaaGreatDoorPfM10
import Derived.Conc.SmallLaws
set_option linter.unusedVariables false
set_option linter.unusedSimpArgs false
/- . -/
namespace Go.Proofs.YteaieagkjepgiaaGreatDoor
set_option maxRecDepth 100000
open Go.Conc
abbrev fmN (fn:FuncId) (tmps:Array Value) (todo:List Item):Frame:={ fn:=fn,tmps:=tmps,todo:=todo,defers:=[],mode:=.run,kind:=.normal }
abbrev Mv (P:Program) (a a':Goroutine):Prop:=∀ w,stepG P true a w = .go a' w #[]
section
variable {P:Program} {Post:Value->World->Prop} {fn:FuncId} {cs:List Frame} {tmps:Array Value} {k:List Item} {c:Nat} {vs:List Value} {w:World} {fr:Frame} {a':Goroutine}
theorem id_mv {fr:Frame} (h:Mv P (Gr fr cs) a') (hn:IdW P Post a' w):IdW P Post (Gr fr cs) w:=id_go rfl (fun d=>⟨#[],h _,Quietly.nil⟩) hn
theorem pk_mv {fr:Frame} (h:Mv P (Gr fr cs) a') (ho:Open c 0 0 w) (hn:Pk P Post c vs w a'):Pk P Post c vs w (Gr fr cs):=pk_go rfl h ho hn
theorem n_seq {a b:Code}:Mv P (Gr (fmN fn tmps (.code (.seq a b)::k)) cs) (Gr (fmN fn tmps (.code a::.code b::k)) cs):=fun _=>rfl
theorem n_region {id:Nat} {ops:Array Oper} {l:List Nat} (hl:List.range ops.size=l):Mv P (Gr (fmN fn tmps (.code (.region id ops false)::k)) cs) (Gr (fmN fn tmps (.inRegion ops l::k)) cs):=fun w=>by
  simp [stepG,stepG.exec,<-hl]
theorem n_done {ops:Array Oper}:Mv P (Gr (fmN fn tmps (.inRegion ops []::k)) cs) (Gr (fmN fn tmps k) cs):=fun _=>rfl
theorem n_ret:Mv P (Gr (fmN fn tmps (.code .ret::k)) cs) (Gr { fmN fn tmps (.code .ret::k) with mode:=.returning } cs):=fun _=>rfl
theorem n_op {ops:Array Oper} {i d:Nat} {r:List Nat} {o:Oper} {v:Value} (ho:ops[i]?=some o) (hg:o.guard=none) (hd:o.dst=some d) (hv:∀ w es,(execOp (fmN fn tmps []).eval o).runT P w es=(.ok (.value v) w,es)) (cs:List Frame):Mv P (Gr (fmN fn tmps (.inRegion ops (i::r)::k)) cs) (Gr (fmN fn (tmps.setIfInBounds d v) (.inRegion ops r::k)) cs):=by
  intro w
  have hw:Region.wanted o (yielded ops tmps)=true:=by unfold Region.wanted;rw [hg]
  rw [step_op (fr:=fmN fn tmps (.inRegion ops (i::r)::k)) rfl rfl rfl ho hw]
  have hv':(execOp (fmN fn tmps (.inRegion ops (i::r)::k)).eval o).runT P w #[]=(.ok (.value v) w,#[]):=hv w #[]
  simp [-Sem.runT_eq,stepG.apply,hv',GStep.after,seen,Frame.finish,ho,hd]
theorem n_move {ops:Array Oper} {i d t:Nat} {r:List Nat} {o:Oper} {v:Value} (ho:ops[i]?=some o) (hg:o.guard=none) (hd:o.dst=some d) (hop:o.op = .move (.tmp t)\/o.op = .assign (.tmp t)) (hx:tmps.getD t undef=v) (cs:List Frame):Mv P (Gr (fmN fn tmps (.inRegion ops (i::r)::k)) cs) (Gr (fmN fn (tmps.setIfInBounds d v) (.inRegion ops r::k)) cs):=by
  refine n_op ho hg hd (fun w es=>?_) cs
  unfold execOp
  rcases hop with e | e <;> (rw [e];show (_,_)=_;rw [<-hx];rfl)
end
noncomputable def ceB:Code:=(Tryz.f43.body).getD .skip
noncomputable abbrev C0:Array Oper:=opsC (lftC ceB)
noncomputable abbrev C1:Array Oper:=opsC (lftC (rgtC ceB))
noncomputable abbrev C2:Array Oper:=opsC (lftC (rgtC (rgtC ceB)))
noncomputable abbrev C3:Array Oper:=opsC (lftC (rgtC (rgtC (rgtC ceB))))
theorem ce_is:ceB = .seq (.region 0 C0 false) (.seq (.region 1 C1 false) (.seq (.region 2 C2 false) (.seq (.region 3 C3 false) .ret))):=by kernel_rfl
def Vc (L:Lp) (fr:Frame) (vs:List Value):Prop:=∃ (o:Oper) (x y:Operand) (ts:Array TypeId) (s:Int) (n:Nat),L.o5[L.o5.size - 1]?=some o/\o.guard=none/\o.op = .call { callee:=.value (.func 43),args:=#[x,y],argTypes:=ts }/\fr.eval x = .int .i64 s/\fr.eval y = .int .i64 (n:Int)/\n<=32/\vs=cellsF s n 9 0
section
variable {Post:Value->World->Prop} {cs tops:List Frame} {vs:List Value} {w:World} {fr:Frame} {s:Int} {n:Nat}
theorem enter24 (s:Int) (n:Nat):Frame.enter Tryz.prog 43 #[.int .i64 s,.int .i64 (n:Int)] .normal=fmN 43 (#[.int .i64 s,.int .i64 (n:Int)]++Array.replicate 9 undef) [.code ceB]:=by
  have h:=Tryz.func43
  have h1:=Tryz.ntmps43
  have hb:Tryz.f43.body=some ceB:=by kernel_rfl
  simp [Frame.enter,h,h1,hb]
theorem info48:(Tryz.prog.info? 76).map (fun i=>i.bytes)=some 32:=by kernel_rfl
theorem behind (w:World) (tmps:Array Value) (hsz:tmps.size=11) (t5:tmps.getD 5 undef = .chan (some w.heap.size)) (h:Pk Tryz.prog Post w.heap.size vs (w.alloc (.chan 0 #[] false 0 0 false)) (Gr (fr.finish (.chan (some w.heap.size))) tops)) :
    Pk Tryz.prog Post w.heap.size vs (w.alloc (.chan 0 #[] false 0 0 false)) (Gr (fmN 43 tmps [.inRegion C2 [],.code (.seq (.region 3 C3 false) .ret)]) (fr::tops)):=by
  have hopen:Open w.heap.size 0 0 (w.alloc (.chan 0 #[] false 0 0 false)):=by
    show (w.heap.push _)[w.heap.size]?=_
    simp
  refine pk_mv n_done hopen (pk_mv n_seq hopen (pk_mv (n_region (l:=[0,1]) (by kernel_rfl)) hopen ?_))
  obtain ⟨o,h1,h2,h3,h4⟩:=of_map (show (C3[0]?).map _=some (none,some 10,.move (.tmp 5)) by kernel_rfl)
  refine pk_mv (n_move (v:=(.chan (some w.heap.size))) h1 h2 h3 (.inl h4) (by simp [-Array.getD_eq_getD_getElem?,getD_set, *]) _) hopen ?_
  clear h1 h2 h3 h4
  obtain ⟨o,h1,h2,h3,h4⟩:=of_map (show (C3[1]?).map _=some (none,some 4,.assign (.tmp 10)) by kernel_rfl)
  refine pk_mv (n_move (v:=(.chan (some w.heap.size))) h1 h2 h3 (.inr h4) (by simp [-Array.getD_eq_getD_getElem?,getD_set, *]) _) hopen ?_
  clear h1 h2 h3 h4
  refine pk_mv n_done hopen (pk_mv n_ret hopen ?_)
  refine pk_go rfl (fun v=>?_) hopen h
  have hf:=Tryz.func43
  have hr:=Tryz.results43
  have e4:((tmps.setIfInBounds 10 (.chan (some w.heap.size))).setIfInBounds 4 (.chan (some w.heap.size))).getD 4 undef = .chan (some w.heap.size):=by simp [-Array.getD_eq_getD_getElem?,getD_set, *]
  simp [-Array.getD_eq_getD_getElem?,stepG,unwind,hf,results,hr,doReturn,seen,GStep.after,e4]
theorem make_run (v:World):Sem.runT Tryz.prog (do let v <-Instr.makeChan 96 (.int .i64 0);pure (Next.value v)) v #[]=(.ok (.value (.chan (some v.heap.size))) (v.alloc (.chan 0 #[] false 0 0 false)),#[]):=by
  obtain ⟨i,hi,_⟩:=Option.map_eq_some_iff.1 info48
  have hu:=Tryz.underlying96
  simp [-Sem.runT_eq,Instr.makeChan,asInt,asIntOf,underlying,typeInfo,newObj,bind,Sem.bind,pure,Sem.runT,program,hu,hi]
theorem ahead (hn:n<=32) (hvs:vs=cellsF s n 9 0) (h:Pk Tryz.prog Post w.heap.size vs (w.alloc (.chan 0 #[] false 0 0 false)) (Gr (fr.finish (.chan (some w.heap.size))) tops)):IdW Tryz.prog Post (Gr (Frame.enter Tryz.prog 43 #[.int .i64 s,.int .i64 (n:Int)] .normal) (fr::tops)) w:=by
  rw [enter24,ce_is]
  refine id_mv n_seq (id_mv (n_region (l:=[0]) (by kernel_rfl)) ?_)
  obtain ⟨o,h1,h2,h3,h4⟩:=of_map (show (C0[0]?).map _=some (none,some 4,.assign (.const (.chan none))) by kernel_rfl)
  refine id_mv (n_op (v:=.chan none) h1 h2 h3 (fun w es=>by unfold execOp;rw [h4];rfl) _) ?_
  clear h1 h2 h3 h4
  refine id_mv n_done (id_mv n_seq (id_mv (n_region (l:=[0,1]) (by kernel_rfl)) ?_))
  obtain ⟨o,h1,h2,h3,h4⟩:=of_map (show (C1[0]?).map _=some (none,some 6,.makeChan 96 (.const (.int .i64 0))) by kernel_rfl)
  generalize htm:(#[.int .i64 s,.int .i64 (n:Int)]++Array.replicate 9 undef:Array Value).setIfInBounds 4 (.chan none)=tm
  have hsz:tm.size=11:=by rw [<-htm];simp
  have t0:tm.getD 0 undef = .int .i64 s:=by rw [<-htm,getD_set];simp
  have t1:tm.getD 1 undef = .int .i64 (n:Int):=by rw [<-htm,getD_set];simp
  clear htm
  refine id_go (a':=Gr (fmN 43 (tm.setIfInBounds 6 (.chan (some w.heap.size))) [.inRegion C1 [1],.code (.seq (.region 2 C2 false) (.seq (.region 3 C3 false) .ret))]) (fr::tops)) (w':=w.alloc (.chan 0 #[] false 0 0 false)) rfl (fun d=>⟨#[],?_,Quietly.nil⟩) ?_
  · have hw:Region.wanted o (yielded C1 tm)=true:=by unfold Region.wanted;rw [h2]
    rw [step_op (fr:=fmN 43 tm [.inRegion C1 [0,1],.code (.seq (.region 2 C2 false) (.seq (.region 3 C3 false) .ret))]) rfl rfl rfl h1 hw]
    have hv':(execOp (fmN 43 tm [.inRegion C1 [0,1],.code (.seq (.region 2 C2 false) (.seq (.region 3 C3 false) .ret))]).eval o).runT Tryz.prog (w.at d) #[]=(.ok (.value (.chan (some w.heap.size))) ((w.alloc (.chan 0 #[] false 0 0 false)).at d),#[]):=by
      unfold execOp
      rw [h4]
      show Sem.runT Tryz.prog (do let v <-Instr.makeChan 96 (.int .i64 0);pure (Next.value v)) (w.at d) #[]=_
      exact make_run _
    simp [-Sem.runT_eq,stepG.apply,hv',GStep.after,seen,Frame.finish,h1,h3]
  clear h1 h2 h3 h4
  obtain ⟨o,h1,h2,h3,h4⟩:=of_map (show (C1[1]?).map _=some (none,some 5,.assign (.tmp 6)) by kernel_rfl)
  refine id_mv (n_move (v:=.chan (some w.heap.size)) h1 h2 h3 (.inr h4) (by simp [-Array.getD_eq_getD_getElem?,getD_set, *]) _) ?_
  clear h1 h2 h3 h4
  refine id_mv n_done (id_mv n_seq (id_mv (n_region (l:=[0,1,2,3]) (by kernel_rfl)) ?_))
  obtain ⟨o,h1,h2,h3,h4⟩:=of_map (show (C2[0]?).map _=some (none,some 7,.move (.tmp 0)) by kernel_rfl)
  refine id_mv (n_move (v:=(.int .i64 s)) h1 h2 h3 (.inl h4) (by simp [-Array.getD_eq_getD_getElem?,getD_set, *]) _) ?_
  clear h1 h2 h3 h4
  obtain ⟨o,h1,h2,h3,h4⟩:=of_map (show (C2[1]?).map _=some (none,some 8,.move (.tmp 1)) by kernel_rfl)
  refine id_mv (n_move (v:=(.int .i64 (n:Int))) h1 h2 h3 (.inl h4) (by simp [-Array.getD_eq_getD_getElem?,getD_set, *]) _) ?_
  clear h1 h2 h3 h4
  obtain ⟨o,h1,h2,h3,h4⟩:=of_map (show (C2[2]?).map _=some (none,some 9,.move (.tmp 5)) by kernel_rfl)
  refine id_mv (n_move (v:=(.chan (some w.heap.size))) h1 h2 h3 (.inl h4) (by simp [-Array.getD_eq_getD_getElem?,getD_set, *]) _) ?_
  clear h1 h2 h3 h4
  obtain ⟨o,h1,h2,h3,h4⟩:=of_map (show (C2[3]?).map _=some (none,none,.go { callee:=.value (.func 67),args:=#[.tmp 7,.tmp 8,.tmp 9],argTypes:=#[3,3,109] }) by kernel_rfl)
  generalize htm:((((tm.setIfInBounds 6 (.chan (some w.heap.size))).setIfInBounds 5 (.chan (some w.heap.size))).setIfInBounds 7 (.int .i64 s)).setIfInBounds 8 (.int .i64 (n:Int))).setIfInBounds 9 (.chan (some w.heap.size))=tn
  have hsn:tn.size=11:=by rw [<-htm];simp [hsz]
  have u7:tn.getD 7 undef = .int .i64 s:=by rw [<-htm];simp [-Array.getD_eq_getD_getElem?,getD_set,hsz]
  have u8:tn.getD 8 undef = .int .i64 (n:Int):=by rw [<-htm];simp [-Array.getD_eq_getD_getElem?,getD_set,hsz]
  have u9:tn.getD 9 undef = .chan (some w.heap.size):=by rw [<-htm];simp [-Array.getD_eq_getD_getElem?,getD_set,hsz]
  have u5:tn.getD 5 undef = .chan (some w.heap.size):=by rw [<-htm];simp [-Array.getD_eq_getD_getElem?,getD_set,hsz]
  clear htm t0 t1 hsz
  have hbh:=behind (Post:=Post) (vs:=vs) (fr:=fr) (tops:=tops) w tn hsn u5 h
  have hsd:Sender Tryz.prog w.heap.size vs (born Tryz.prog (sendD s n w.heap.size)):=by rw [hvs];exact born_sender s n _ hn
  refine id_spawn (child:=born Tryz.prog (sendD s n w.heap.size)) rfl (fun d=>?_) hsd hbh
  have hw:Region.wanted o (yielded C2 tn)=true:=by unfold Region.wanted;rw [h2]
  rw [step_op (fr:=fmN 43 tn [.inRegion C2 [3],.code (.seq (.region 3 C3 false) .ret)]) rfl rfl rfl h1 hw]
  have hv':∀ v:World,(execOp (fmN 43 tn [.inRegion C2 [3],.code (.seq (.region 3 C3 false) .ret)]).eval o).runT Tryz.prog v #[]=(.ok (.spawn (sendD s n w.heap.size)) v,#[]):=by
    intro v
    unfold execOp
    rw [h4]
    have e7:(fmN 43 tn [.inRegion C2 [3],.code (.seq (.region 3 C3 false) .ret)]).eval (.tmp 7) = .int .i64 s:=u7
    have e8:(fmN 43 tn [.inRegion C2 [3],.code (.seq (.region 3 C3 false) .ret)]).eval (.tmp 8) = .int .i64 (n:Int):=u8
    have e9:(fmN 43 tn [.inRegion C2 [3],.code (.seq (.region 3 C3 false) .ret)]).eval (.tmp 9) = .chan (some w.heap.size):=u9
    show Sem.runT Tryz.prog (pure (Next.spawn { target:=.fn (.func 67) #[],args:=#[]++#[Operand.tmp 7,.tmp 8,.tmp 9].map (fmN 43 tn [.inRegion C2 [3],.code (.seq (.region 3 C3 false) .ret)]).eval })) v #[]=_
    have e3:(#[]++#[Operand.tmp 7,.tmp 8,.tmp 9].map (fmN 43 tn [.inRegion C2 [3],.code (.seq (.region 3 C3 false) .ret)]).eval)=#[.int .i64 s,.int .i64 (n:Int),.chan (some w.heap.size)]:=by simp [e7,e8,e9]
    rw [e3]
    rfl
  simp [-Sem.runT_eq,stepG.apply,hv',GStep.after,seen,Frame.finish,h1,h3,born]
theorem callP {f:Array Func} {ok:Op->Bool} {S:List FuncId} {F:FuncId->List Lp}:CallP Tryz.prog.toTables f Tryz.prog.funcs ok S F Vc Post:=by
  rintro fr tops L k vs gs w₁ sl t q B hL ⟨o,x,y,ts,s,n,h1,h2,h4,hx,hy,hn,hvs⟩ ho hm hsz e h0 hLv hP hkid hshut
  have hw:Region.wanted o (yielded L.o5 fr.tmps)=true:=by unfold Region.wanted;rw [h2]
  have main:IdW Tryz.prog Post (Gr fr tops) w₁:=by
    refine id_mv (fun v=>?_) (ahead (w:=w₁) (fr:=fr) (tops:=tops) hn hvs ⟨hkid,hshut⟩)
    rw [step_op (P:=Tryz.prog) ho.round hm e h1 hw]
    have hv':(execOp fr.eval o).runT Tryz.prog v #[]=(.ok (.enter 43 #[.int .i64 s,.int .i64 (n:Int)]) v,#[]):=by
      unfold execOp
      rw [h4]
      show (callFunc 43 (#[]++#[x,y].map fr.eval++#[])).runT Tryz.prog v #[]=_
      have e3:(#[]++#[x,y].map fr.eval++#[])=#[.int .i64 s,.int .i64 (n:Int)]:=by simp [hx,hy]
      rw [e3]
      exact run_callF Tryz.func43 (by kernel_rfl) (by kernel_rfl) _ _ _
    have hkd:=ho.kind
    simp [-Sem.runT_eq,stepG.apply,hv',GStep.after,seen,hkd,e]
  exact main gs sl t q B w₁.drawn h0 hLv hP
end
end Go.Proofs.YteaieagkjepgiaaGreatDoor
