/- Texts of ours, laid one behind the other: XeN. -/
import Derived.Test.YteaieagkjepgiaaGreatDoorPfM12
set_option linter.unusedVariables false
set_option linter.unusedSimpArgs false
/- . -/
namespace Go.Proofs.YteaieagkjepgiaaGreatDoor
set_option maxRecDepth 100000
open Go.Conc
abbrev Sn:List FuncId:=[3,4,5,6,7,8,9,10,11,12,13,14,15,16,17,18,19,20,21,22,23,24,25,26,27,28,29,30,31,32,33,34,35,36,37,38,39,40,41,42,44,45,46,47,48,49,50,51,52,53,54,55,56,57,58,59,60,61,62,63,64,65,66,68,69,70,71,72,73,74,75,76,77,78,79,80,81,82,83,84,85,86,87,88,89,90,91,92,93,94,95,96,97,98,99,100,101,102,103,104,105,106,107,108,128,129,130,131,132,133]
abbrev Sp:List FuncId:=[44,68]
noncomputable def okc:Op->Bool:=fun o=>okOp tw Sn o||(match o with | .recv _ _ _=>true | .call { callee:=.value (.func f),.. }=>f==43 | .call { callee:=.value (.tmp _),.. }=>true | .call { callee:=.invoke _ _,.. }=>true | .panic _=>true | _=>false)
noncomputable def entryOf (b:Code):Code:=lftC (rgtC (rgtC (rgtC (rgtC b))))
noncomputable def lpOf (fn slot pair flag:Nat) (b:Code):Lp:={ ok:=okOp tw Sp,fn:=fn,slot:=slot,pair:=pair,flag:=flag,rid:=6,id:=0,ops:=opsC (lftC (inC (inC (rgtC (entryOf b))))),body:=rgtC (rgtC (inC (inC (rgtC (entryOf b))))),r5:=5,o5:=opsC (lftC (entryOf b)),rest:=[] }
noncomputable def b9:Code:=(Tryz.f19.body).getD .skip
noncomputable def L9:Lp:=lpOf 19 31 32 33 b9
noncomputable def Fn:FuncId->List Lp:=fun x=>if x=19 then [L9] else []
theorem fn_cases {x:FuncId} {L:Lp} (h:L ∈ Fn x):x=19/\L=L9:=by
  unfold Fn at h
  split at h
  · rename_i e;exact ⟨e,by simpa using h⟩
  · simp at h
theorem entry9:entryOf b9=L9.entry:=by kernel_rfl
theorem b9_is:b9 = .seq (lftC b9) (.seq (lftC (rgtC b9)) (.seq (.seq (lftC (lftC (rgtC (rgtC b9)))) (rgtC (lftC (rgtC (rgtC b9))))) (.seq (lftC (rgtC (rgtC (rgtC b9)))) (.seq (entryOf b9) (rgtC (rgtC (rgtC (rgtC (rgtC b9))))))))):=by kernel_rfl
theorem wanted_any {o:Oper} (h:o.guard=none):∀ y,Region.wanted o y=true:=fun y=>by unfold Region.wanted;rw [h]
theorem run_under {P:Program} {t:TypeId} {d:TypeDesc} (h:P.underlying t=some d) (w:World) (es:Array Event):(underlying t).runT P w es=(.ok d w,es):=by
  unfold underlying
  rw [run_prog,h]
  rfl
theorem run_zero {P:Program} {t:TypeId} {z:Value} (h:(P.info? t).bind (·.zero)=some z) (w:World) (es:Array Event):(zeroValue t).runT P w es=(.ok z w,es):=by
  obtain ⟨i,hi,hz⟩:=Option.bind_eq_some_iff.1 h
  have e:zeroValue t=(program >>= fun p=>(match p.info? t with | some i=>pure i | none=>stuck "no such type")) >>= fun i=>(match i.zero with | some v=>pure v | none=>unsupported (.resourceLimit "a value of more than 2^22 cells")):=rfl
  rw [e]
  have e2:∀ {α β:Type} (x:Sem α) (F:α->Sem β),(x >>= F)=x.bind F:=fun _ _=>rfl
  simp only [e2,Sem.runT_bind']
  rw [show Sem.runT P program w es=(.ok P w,es) from rfl]
  dsimp only
  rw [hi]
  dsimp only
  rw [show Sem.runT P (pure i:Sem TypeInfo) w es=(.ok i w,es) from rfl]
  dsimp only
  rw [hz]
  rfl
noncomputable def z48:Value:=((Tryz.prog.info? 76).bind (·.zero)).getD undef
theorem info48z:(Tryz.prog.info? 76).bind (·.zero)=some z48:=by kernel_rfl
theorem lp9:LpOk tw Sn Sp L9:=by
  obtain ⟨o,h1,h2,h3,h4⟩:=of_map (show (L9.ops[0]?).map _=some (none,some 32,.recv 73 (.tmp 31) true) by kernel_rfl)
  obtain ⟨p,g1,g2,g3,g4⟩:=of_map (show (L9.ops[1]?).map _=some (none,some 33,.extract (.tmp 32) 1) by kernel_rfl)
  exact ⟨rfl,by decide,by kernel_rfl,by kernel_rfl,⟨o,h1,fun x=>by rw [h4];rfl,h3,wanted_any h2⟩,⟨p,g1,g4,g3,wanted_any g2⟩,by decide,by decide⟩
theorem call9:∃ o X Y ts,L9.o5[L9.o5.size - 1]?=some o/\o.guard=none/\o.dst=some L9.slot/\o.op = .call { callee:=.value (.func 43),args:=#[X,Y],argTypes:=ts }:=by
  have hs:L9.o5.size - 1=3:=by kernel_rfl
  obtain ⟨o,h1,h2,h3,h4⟩:=of_map (show (L9.o5[3]?).map _=some (none,some L9.slot,.call { callee:=.value (.func 43),args:=#[.tmp 28,.tmp 30],argTypes:=#[3,3] }) by kernel_rfl)
  rw [hs]
  exact ⟨o,_,_,_,h1,h2,h3,h4⟩
theorem lq9:LqOk tw Sn L9:=by
  obtain ⟨o,X,Y,ts,h1,h2,h3,h4⟩:=call9
  obtain ⟨p,g1,g2,g3,g4⟩:=of_map (show (L9.ops[1]?).map _=some (none,some 33,.extract (.tmp 32) 1) by kernel_rfl)
  exact ⟨by have:L9.o5.size - 1=3:=by kernel_rfl
            omega,⟨o,h1,fun x=>by rw [h4];rfl,wanted_any h2⟩,⟨p,g1,g4,g3,wanted_any g2⟩⟩
theorem o5_9:∀ j o,j+1<L9.o5.size->L9.o5[j]?=some o->okOp tw Sn o.op=true:=by
  have h:(L9.o5.extract 0 (L9.o5.size - 1)).all (fun o=>okOp tw Sn o.op)=true:=by kernel_rfl
  intro j o hj ho
  refine Array.all_eq_true_iff_forall_mem.1 h o ?_
  refine Array.mem_of_getElem? (i:=j) ?_
  rw [Array.getElem?_extract,if_pos (by omega)]
  simpa using ho
theorem calm9:Calm (okDy tw Sn 19) (Fn 19) b9:=by
  have hL:L9 ∈ Fn 19:=by unfold Fn;simp
  rw [b9_is,entry9]
  refine .inr ⟨calm_of (by kernel_rfl),.inr ⟨calm_of (by kernel_rfl),.inr ⟨calm_of (by kernel_rfl),.inr ⟨calm_of (by kernel_rfl),.inr ⟨?_,calm_of (by kernel_rfl)⟩⟩⟩⟩⟩
  exact .inl ⟨L9,hL,rfl⟩
theorem tw_ne {x:FuncId} (h:x ≠ 43):twF[x]?=Tryz.prog.funcs[x]?:=Array.getElem?_setIfInBounds_ne (Ne.symm h)
theorem fine2 {x:FuncId} {fn:Func} {ok:Op->Bool} (hx:x ≠ 43) (h:Tryz.prog.funcs[x]?=some fn) (h1:fn.body.isNone=false) (h2:(fn.name == "runtime.NumGoroutine")=false) (h3:okCode ok (fn.body.getD .skip)=true):Fine ok twF Tryz.prog.funcs x:=
  ⟨⟨(tw_ne hx).symm,fn,(tw_ne hx).trans h,h1,h2⟩,fun fn' e=>by rw [tw_ne hx,h] at e;cases e;exact h3⟩
theorem fine1 {x:FuncId} {fn:Func} {ok:Op->Bool} (hx:x ≠ 43) (h:Tryz.prog.funcs[x]?=some fn) (h1:fn.body.isNone=false) (h2:(fn.name == "runtime.NumGoroutine")=false) (h3:okCode ok (fn.body.getD .skip)=true):Fine ok twF twF x:=
  ⟨⟨rfl,fn,(tw_ne hx).trans h,h1,h2⟩,fun fn' e=>by rw [tw_ne hx,h] at e;cases e;exact h3⟩
theorem fineS:∀ x ∈ Sn,Fine okc twF Tryz.prog.funcs x:=by
  intro x hx
  simp only [List.mem_cons,List.not_mem_nil,or_false] at hx
  rcases hx with rfl | rfl | rfl | rfl | rfl | rfl | rfl | rfl | rfl | rfl | rfl | rfl | rfl | rfl | rfl | rfl | rfl | rfl | rfl | rfl | rfl | rfl | rfl | rfl | rfl | rfl | rfl | rfl | rfl | rfl | rfl | rfl | rfl | rfl | rfl | rfl | rfl | rfl | rfl | rfl | rfl | rfl | rfl | rfl | rfl | rfl | rfl | rfl | rfl | rfl | rfl | rfl | rfl | rfl | rfl | rfl | rfl | rfl | rfl | rfl | rfl | rfl | rfl | rfl | rfl | rfl | rfl | rfl | rfl | rfl | rfl | rfl | rfl | rfl | rfl | rfl | rfl | rfl | rfl | rfl | rfl | rfl | rfl | rfl | rfl | rfl | rfl | rfl | rfl | rfl | rfl | rfl | rfl | rfl | rfl | rfl | rfl | rfl | rfl | rfl | rfl | rfl | rfl | rfl | rfl | rfl | rfl | rfl | rfl | rfl
  · exact fine2 (by decide) Tryz.func3 (by kernel_rfl) (by kernel_rfl) (by kernel_rfl)
  · exact fine2 (by decide) Tryz.func4 (by kernel_rfl) (by kernel_rfl) (by kernel_rfl)
  · exact fine2 (by decide) Tryz.func5 (by kernel_rfl) (by kernel_rfl) (by kernel_rfl)
  · exact fine2 (by decide) Tryz.func6 (by kernel_rfl) (by kernel_rfl) (by kernel_rfl)
  · exact fine2 (by decide) Tryz.func7 (by kernel_rfl) (by kernel_rfl) (by kernel_rfl)
  · exact fine2 (by decide) Tryz.func8 (by kernel_rfl) (by kernel_rfl) (by kernel_rfl)
  · exact fine2 (by decide) Tryz.func9 (by kernel_rfl) (by kernel_rfl) (by kernel_rfl)
  · exact fine2 (by decide) Tryz.func10 (by kernel_rfl) (by kernel_rfl) (by kernel_rfl)
  · exact fine2 (by decide) Tryz.func11 (by kernel_rfl) (by kernel_rfl) (by kernel_rfl)
  · exact fine2 (by decide) Tryz.func12 (by kernel_rfl) (by kernel_rfl) (by kernel_rfl)
  · exact fine2 (by decide) Tryz.func13 (by kernel_rfl) (by kernel_rfl) (by kernel_rfl)
  · exact fine2 (by decide) Tryz.func14 (by kernel_rfl) (by kernel_rfl) (by kernel_rfl)
  · exact fine2 (by decide) Tryz.func15 (by kernel_rfl) (by kernel_rfl) (by kernel_rfl)
  · exact fine2 (by decide) Tryz.func16 (by kernel_rfl) (by kernel_rfl) (by kernel_rfl)
  · exact fine2 (by decide) Tryz.func17 (by kernel_rfl) (by kernel_rfl) (by kernel_rfl)
  · exact fine2 (by decide) Tryz.func18 (by kernel_rfl) (by kernel_rfl) (by kernel_rfl)
  · exact fine2 (by decide) Tryz.func19 (by kernel_rfl) (by kernel_rfl) (by kernel_rfl)
  · exact fine2 (by decide) Tryz.func20 (by kernel_rfl) (by kernel_rfl) (by kernel_rfl)
  · exact fine2 (by decide) Tryz.func21 (by kernel_rfl) (by kernel_rfl) (by kernel_rfl)
  · exact fine2 (by decide) Tryz.func22 (by kernel_rfl) (by kernel_rfl) (by kernel_rfl)
  · exact fine2 (by decide) Tryz.func23 (by kernel_rfl) (by kernel_rfl) (by kernel_rfl)
  · exact fine2 (by decide) Tryz.func24 (by kernel_rfl) (by kernel_rfl) (by kernel_rfl)
  · exact fine2 (by decide) Tryz.func25 (by kernel_rfl) (by kernel_rfl) (by kernel_rfl)
  · exact fine2 (by decide) Tryz.func26 (by kernel_rfl) (by kernel_rfl) (by kernel_rfl)
  · exact fine2 (by decide) Tryz.func27 (by kernel_rfl) (by kernel_rfl) (by kernel_rfl)
  · exact fine2 (by decide) Tryz.func28 (by kernel_rfl) (by kernel_rfl) (by kernel_rfl)
  · exact fine2 (by decide) Tryz.func29 (by kernel_rfl) (by kernel_rfl) (by kernel_rfl)
  · exact fine2 (by decide) Tryz.func30 (by kernel_rfl) (by kernel_rfl) (by kernel_rfl)
  · exact fine2 (by decide) Tryz.func31 (by kernel_rfl) (by kernel_rfl) (by kernel_rfl)
  · exact fine2 (by decide) Tryz.func32 (by kernel_rfl) (by kernel_rfl) (by kernel_rfl)
  · exact fine2 (by decide) Tryz.func33 (by kernel_rfl) (by kernel_rfl) (by kernel_rfl)
  · exact fine2 (by decide) Tryz.func34 (by kernel_rfl) (by kernel_rfl) (by kernel_rfl)
  · exact fine2 (by decide) Tryz.func35 (by kernel_rfl) (by kernel_rfl) (by kernel_rfl)
  · exact fine2 (by decide) Tryz.func36 (by kernel_rfl) (by kernel_rfl) (by kernel_rfl)
  · exact fine2 (by decide) Tryz.func37 (by kernel_rfl) (by kernel_rfl) (by kernel_rfl)
  · exact fine2 (by decide) Tryz.func38 (by kernel_rfl) (by kernel_rfl) (by kernel_rfl)
  · exact fine2 (by decide) Tryz.func39 (by kernel_rfl) (by kernel_rfl) (by kernel_rfl)
  · exact fine2 (by decide) Tryz.func40 (by kernel_rfl) (by kernel_rfl) (by kernel_rfl)
  · exact fine2 (by decide) Tryz.func41 (by kernel_rfl) (by kernel_rfl) (by kernel_rfl)
  · exact fine2 (by decide) Tryz.func42 (by kernel_rfl) (by kernel_rfl) (by kernel_rfl)
  · exact fine2 (by decide) Tryz.func44 (by kernel_rfl) (by kernel_rfl) (by kernel_rfl)
  · exact fine2 (by decide) Tryz.func45 (by kernel_rfl) (by kernel_rfl) (by kernel_rfl)
  · exact fine2 (by decide) Tryz.func46 (by kernel_rfl) (by kernel_rfl) (by kernel_rfl)
  · exact fine2 (by decide) Tryz.func47 (by kernel_rfl) (by kernel_rfl) (by kernel_rfl)
  · exact fine2 (by decide) Tryz.func48 (by kernel_rfl) (by kernel_rfl) (by kernel_rfl)
  · exact fine2 (by decide) Tryz.func49 (by kernel_rfl) (by kernel_rfl) (by kernel_rfl)
  · exact fine2 (by decide) Tryz.func50 (by kernel_rfl) (by kernel_rfl) (by kernel_rfl)
  · exact fine2 (by decide) Tryz.func51 (by kernel_rfl) (by kernel_rfl) (by kernel_rfl)
  · exact fine2 (by decide) Tryz.func52 (by kernel_rfl) (by kernel_rfl) (by kernel_rfl)
  · exact fine2 (by decide) Tryz.func53 (by kernel_rfl) (by kernel_rfl) (by kernel_rfl)
  · exact fine2 (by decide) Tryz.func54 (by kernel_rfl) (by kernel_rfl) (by kernel_rfl)
  · exact fine2 (by decide) Tryz.func55 (by kernel_rfl) (by kernel_rfl) (by kernel_rfl)
  · exact fine2 (by decide) Tryz.func56 (by kernel_rfl) (by kernel_rfl) (by kernel_rfl)
  · exact fine2 (by decide) Tryz.func57 (by kernel_rfl) (by kernel_rfl) (by kernel_rfl)
  · exact fine2 (by decide) Tryz.func58 (by kernel_rfl) (by kernel_rfl) (by kernel_rfl)
  · exact fine2 (by decide) Tryz.func59 (by kernel_rfl) (by kernel_rfl) (by kernel_rfl)
  · exact fine2 (by decide) Tryz.func60 (by kernel_rfl) (by kernel_rfl) (by kernel_rfl)
  · exact fine2 (by decide) Tryz.func61 (by kernel_rfl) (by kernel_rfl) (by kernel_rfl)
  · exact fine2 (by decide) Tryz.func62 (by kernel_rfl) (by kernel_rfl) (by kernel_rfl)
  · exact fine2 (by decide) Tryz.func63 (by kernel_rfl) (by kernel_rfl) (by kernel_rfl)
  · exact fine2 (by decide) Tryz.func64 (by kernel_rfl) (by kernel_rfl) (by kernel_rfl)
  · exact fine2 (by decide) Tryz.func65 (by kernel_rfl) (by kernel_rfl) (by kernel_rfl)
  · exact fine2 (by decide) Tryz.func66 (by kernel_rfl) (by kernel_rfl) (by kernel_rfl)
  · exact fine2 (by decide) Tryz.func68 (by kernel_rfl) (by kernel_rfl) (by kernel_rfl)
  · exact fine2 (by decide) Tryz.func69 (by kernel_rfl) (by kernel_rfl) (by kernel_rfl)
  · exact fine2 (by decide) Tryz.func70 (by kernel_rfl) (by kernel_rfl) (by kernel_rfl)
  · exact fine2 (by decide) Tryz.func71 (by kernel_rfl) (by kernel_rfl) (by kernel_rfl)
  · exact fine2 (by decide) Tryz.func72 (by kernel_rfl) (by kernel_rfl) (by kernel_rfl)
  · exact fine2 (by decide) Tryz.func73 (by kernel_rfl) (by kernel_rfl) (by kernel_rfl)
  · exact fine2 (by decide) Tryz.func74 (by kernel_rfl) (by kernel_rfl) (by kernel_rfl)
  · exact fine2 (by decide) Tryz.func75 (by kernel_rfl) (by kernel_rfl) (by kernel_rfl)
  · exact fine2 (by decide) Tryz.func76 (by kernel_rfl) (by kernel_rfl) (by kernel_rfl)
  · exact fine2 (by decide) Tryz.func77 (by kernel_rfl) (by kernel_rfl) (by kernel_rfl)
  · exact fine2 (by decide) Tryz.func78 (by kernel_rfl) (by kernel_rfl) (by kernel_rfl)
  · exact fine2 (by decide) Tryz.func79 (by kernel_rfl) (by kernel_rfl) (by kernel_rfl)
  · exact fine2 (by decide) Tryz.func80 (by kernel_rfl) (by kernel_rfl) (by kernel_rfl)
  · exact fine2 (by decide) Tryz.func81 (by kernel_rfl) (by kernel_rfl) (by kernel_rfl)
  · exact fine2 (by decide) Tryz.func82 (by kernel_rfl) (by kernel_rfl) (by kernel_rfl)
  · exact fine2 (by decide) Tryz.func83 (by kernel_rfl) (by kernel_rfl) (by kernel_rfl)
  · exact fine2 (by decide) Tryz.func84 (by kernel_rfl) (by kernel_rfl) (by kernel_rfl)
  · exact fine2 (by decide) Tryz.func85 (by kernel_rfl) (by kernel_rfl) (by kernel_rfl)
  · exact fine2 (by decide) Tryz.func86 (by kernel_rfl) (by kernel_rfl) (by kernel_rfl)
  · exact fine2 (by decide) Tryz.func87 (by kernel_rfl) (by kernel_rfl) (by kernel_rfl)
  · exact fine2 (by decide) Tryz.func88 (by kernel_rfl) (by kernel_rfl) (by kernel_rfl)
  · exact fine2 (by decide) Tryz.func89 (by kernel_rfl) (by kernel_rfl) (by kernel_rfl)
  · exact fine2 (by decide) Tryz.func90 (by kernel_rfl) (by kernel_rfl) (by kernel_rfl)
  · exact fine2 (by decide) Tryz.func91 (by kernel_rfl) (by kernel_rfl) (by kernel_rfl)
  · exact fine2 (by decide) Tryz.func92 (by kernel_rfl) (by kernel_rfl) (by kernel_rfl)
  · exact fine2 (by decide) Tryz.func93 (by kernel_rfl) (by kernel_rfl) (by kernel_rfl)
  · exact fine2 (by decide) Tryz.func94 (by kernel_rfl) (by kernel_rfl) (by kernel_rfl)
  · exact fine2 (by decide) Tryz.func95 (by kernel_rfl) (by kernel_rfl) (by kernel_rfl)
  · exact fine2 (by decide) Tryz.func96 (by kernel_rfl) (by kernel_rfl) (by kernel_rfl)
  · exact fine2 (by decide) Tryz.func97 (by kernel_rfl) (by kernel_rfl) (by kernel_rfl)
  · exact fine2 (by decide) Tryz.func98 (by kernel_rfl) (by kernel_rfl) (by kernel_rfl)
  · exact fine2 (by decide) Tryz.func99 (by kernel_rfl) (by kernel_rfl) (by kernel_rfl)
  · exact fine2 (by decide) Tryz.func100 (by kernel_rfl) (by kernel_rfl) (by kernel_rfl)
  · exact fine2 (by decide) Tryz.func101 (by kernel_rfl) (by kernel_rfl) (by kernel_rfl)
  · exact fine2 (by decide) Tryz.func102 (by kernel_rfl) (by kernel_rfl) (by kernel_rfl)
  · exact fine2 (by decide) Tryz.func103 (by kernel_rfl) (by kernel_rfl) (by kernel_rfl)
  · exact fine2 (by decide) Tryz.func104 (by kernel_rfl) (by kernel_rfl) (by kernel_rfl)
  · exact fine2 (by decide) Tryz.func105 (by kernel_rfl) (by kernel_rfl) (by kernel_rfl)
  · exact fine2 (by decide) Tryz.func106 (by kernel_rfl) (by kernel_rfl) (by kernel_rfl)
  · exact fine2 (by decide) Tryz.func107 (by kernel_rfl) (by kernel_rfl) (by kernel_rfl)
  · exact fine2 (by decide) Tryz.func108 (by kernel_rfl) (by kernel_rfl) (by kernel_rfl)
  · exact fine2 (by decide) Tryz.func128 (by kernel_rfl) (by kernel_rfl) (by kernel_rfl)
  · exact fine2 (by decide) Tryz.func129 (by kernel_rfl) (by kernel_rfl) (by kernel_rfl)
  · exact fine2 (by decide) Tryz.func130 (by kernel_rfl) (by kernel_rfl) (by kernel_rfl)
  · exact fine2 (by decide) Tryz.func131 (by kernel_rfl) (by kernel_rfl) (by kernel_rfl)
  · exact fine2 (by decide) Tryz.func132 (by kernel_rfl) (by kernel_rfl) (by kernel_rfl)
  · exact fine2 (by decide) Tryz.func133 (by kernel_rfl) (by kernel_rfl) (by kernel_rfl)
theorem fineP:∀ x ∈ Sp,Fine (okOp tw Sp) twF twF x:=by
  intro x hx
  simp only [List.mem_cons,List.not_mem_nil,or_false] at hx
  rcases hx with rfl | rfl
  · exact fine1 (by decide) Tryz.func44 (by kernel_rfl) (by kernel_rfl) (by kernel_rfl)
  · exact fine1 (by decide) Tryz.func68 (by kernel_rfl) (by kernel_rfl) (by kernel_rfl)
theorem slots:Sl tw Sn:=by
  intro x hx
  simp only [List.mem_cons,List.not_mem_nil,or_false] at hx
  rcases hx with rfl | rfl | rfl | rfl | rfl | rfl | rfl | rfl | rfl | rfl | rfl | rfl | rfl | rfl | rfl | rfl | rfl | rfl | rfl | rfl | rfl | rfl | rfl | rfl | rfl | rfl | rfl | rfl | rfl | rfl | rfl | rfl | rfl | rfl | rfl | rfl | rfl | rfl | rfl | rfl | rfl | rfl | rfl | rfl | rfl | rfl | rfl | rfl | rfl | rfl | rfl | rfl | rfl | rfl | rfl | rfl | rfl | rfl | rfl | rfl | rfl | rfl | rfl | rfl | rfl | rfl | rfl | rfl | rfl | rfl | rfl | rfl | rfl | rfl | rfl | rfl | rfl | rfl | rfl | rfl | rfl | rfl | rfl | rfl | rfl | rfl | rfl | rfl | rfl | rfl | rfl | rfl | rfl | rfl | rfl | rfl | rfl | rfl | rfl | rfl | rfl | rfl | rfl | rfl | rfl | rfl | rfl | rfl | rfl | rfl
  · exact ⟨_,(tw_ne (by decide)).trans Tryz.func3,by kernel_rfl,by kernel_rfl,by kernel_rfl⟩
  · exact ⟨_,(tw_ne (by decide)).trans Tryz.func4,by kernel_rfl,by kernel_rfl,by kernel_rfl⟩
  · exact ⟨_,(tw_ne (by decide)).trans Tryz.func5,by kernel_rfl,by kernel_rfl,by kernel_rfl⟩
  · exact ⟨_,(tw_ne (by decide)).trans Tryz.func6,by kernel_rfl,by kernel_rfl,by kernel_rfl⟩
  · exact ⟨_,(tw_ne (by decide)).trans Tryz.func7,by kernel_rfl,by kernel_rfl,by kernel_rfl⟩
  · exact ⟨_,(tw_ne (by decide)).trans Tryz.func8,by kernel_rfl,by kernel_rfl,by kernel_rfl⟩
  · exact ⟨_,(tw_ne (by decide)).trans Tryz.func9,by kernel_rfl,by kernel_rfl,by kernel_rfl⟩
  · exact ⟨_,(tw_ne (by decide)).trans Tryz.func10,by kernel_rfl,by kernel_rfl,by kernel_rfl⟩
  · exact ⟨_,(tw_ne (by decide)).trans Tryz.func11,by kernel_rfl,by kernel_rfl,by kernel_rfl⟩
  · exact ⟨_,(tw_ne (by decide)).trans Tryz.func12,by kernel_rfl,by kernel_rfl,by kernel_rfl⟩
  · exact ⟨_,(tw_ne (by decide)).trans Tryz.func13,by kernel_rfl,by kernel_rfl,by kernel_rfl⟩
  · exact ⟨_,(tw_ne (by decide)).trans Tryz.func14,by kernel_rfl,by kernel_rfl,by kernel_rfl⟩
  · exact ⟨_,(tw_ne (by decide)).trans Tryz.func15,by kernel_rfl,by kernel_rfl,by kernel_rfl⟩
  · exact ⟨_,(tw_ne (by decide)).trans Tryz.func16,by kernel_rfl,by kernel_rfl,by kernel_rfl⟩
  · exact ⟨_,(tw_ne (by decide)).trans Tryz.func17,by kernel_rfl,by kernel_rfl,by kernel_rfl⟩
  · exact ⟨_,(tw_ne (by decide)).trans Tryz.func18,by kernel_rfl,by kernel_rfl,by kernel_rfl⟩
  · exact ⟨_,(tw_ne (by decide)).trans Tryz.func19,by kernel_rfl,by kernel_rfl,by kernel_rfl⟩
  · exact ⟨_,(tw_ne (by decide)).trans Tryz.func20,by kernel_rfl,by kernel_rfl,by kernel_rfl⟩
  · exact ⟨_,(tw_ne (by decide)).trans Tryz.func21,by kernel_rfl,by kernel_rfl,by kernel_rfl⟩
  · exact ⟨_,(tw_ne (by decide)).trans Tryz.func22,by kernel_rfl,by kernel_rfl,by kernel_rfl⟩
  · exact ⟨_,(tw_ne (by decide)).trans Tryz.func23,by kernel_rfl,by kernel_rfl,by kernel_rfl⟩
  · exact ⟨_,(tw_ne (by decide)).trans Tryz.func24,by kernel_rfl,by kernel_rfl,by kernel_rfl⟩
  · exact ⟨_,(tw_ne (by decide)).trans Tryz.func25,by kernel_rfl,by kernel_rfl,by kernel_rfl⟩
  · exact ⟨_,(tw_ne (by decide)).trans Tryz.func26,by kernel_rfl,by kernel_rfl,by kernel_rfl⟩
  · exact ⟨_,(tw_ne (by decide)).trans Tryz.func27,by kernel_rfl,by kernel_rfl,by kernel_rfl⟩
  · exact ⟨_,(tw_ne (by decide)).trans Tryz.func28,by kernel_rfl,by kernel_rfl,by kernel_rfl⟩
  · exact ⟨_,(tw_ne (by decide)).trans Tryz.func29,by kernel_rfl,by kernel_rfl,by kernel_rfl⟩
  · exact ⟨_,(tw_ne (by decide)).trans Tryz.func30,by kernel_rfl,by kernel_rfl,by kernel_rfl⟩
  · exact ⟨_,(tw_ne (by decide)).trans Tryz.func31,by kernel_rfl,by kernel_rfl,by kernel_rfl⟩
  · exact ⟨_,(tw_ne (by decide)).trans Tryz.func32,by kernel_rfl,by kernel_rfl,by kernel_rfl⟩
  · exact ⟨_,(tw_ne (by decide)).trans Tryz.func33,by kernel_rfl,by kernel_rfl,by kernel_rfl⟩
  · exact ⟨_,(tw_ne (by decide)).trans Tryz.func34,by kernel_rfl,by kernel_rfl,by kernel_rfl⟩
  · exact ⟨_,(tw_ne (by decide)).trans Tryz.func35,by kernel_rfl,by kernel_rfl,by kernel_rfl⟩
  · exact ⟨_,(tw_ne (by decide)).trans Tryz.func36,by kernel_rfl,by kernel_rfl,by kernel_rfl⟩
  · exact ⟨_,(tw_ne (by decide)).trans Tryz.func37,by kernel_rfl,by kernel_rfl,by kernel_rfl⟩
  · exact ⟨_,(tw_ne (by decide)).trans Tryz.func38,by kernel_rfl,by kernel_rfl,by kernel_rfl⟩
  · exact ⟨_,(tw_ne (by decide)).trans Tryz.func39,by kernel_rfl,by kernel_rfl,by kernel_rfl⟩
  · exact ⟨_,(tw_ne (by decide)).trans Tryz.func40,by kernel_rfl,by kernel_rfl,by kernel_rfl⟩
  · exact ⟨_,(tw_ne (by decide)).trans Tryz.func41,by kernel_rfl,by kernel_rfl,by kernel_rfl⟩
  · exact ⟨_,(tw_ne (by decide)).trans Tryz.func42,by kernel_rfl,by kernel_rfl,by kernel_rfl⟩
  · exact ⟨_,(tw_ne (by decide)).trans Tryz.func44,by kernel_rfl,by kernel_rfl,by kernel_rfl⟩
  · exact ⟨_,(tw_ne (by decide)).trans Tryz.func45,by kernel_rfl,by kernel_rfl,by kernel_rfl⟩
  · exact ⟨_,(tw_ne (by decide)).trans Tryz.func46,by kernel_rfl,by kernel_rfl,by kernel_rfl⟩
  · exact ⟨_,(tw_ne (by decide)).trans Tryz.func47,by kernel_rfl,by kernel_rfl,by kernel_rfl⟩
  · exact ⟨_,(tw_ne (by decide)).trans Tryz.func48,by kernel_rfl,by kernel_rfl,by kernel_rfl⟩
  · exact ⟨_,(tw_ne (by decide)).trans Tryz.func49,by kernel_rfl,by kernel_rfl,by kernel_rfl⟩
  · exact ⟨_,(tw_ne (by decide)).trans Tryz.func50,by kernel_rfl,by kernel_rfl,by kernel_rfl⟩
  · exact ⟨_,(tw_ne (by decide)).trans Tryz.func51,by kernel_rfl,by kernel_rfl,by kernel_rfl⟩
  · exact ⟨_,(tw_ne (by decide)).trans Tryz.func52,by kernel_rfl,by kernel_rfl,by kernel_rfl⟩
  · exact ⟨_,(tw_ne (by decide)).trans Tryz.func53,by kernel_rfl,by kernel_rfl,by kernel_rfl⟩
  · exact ⟨_,(tw_ne (by decide)).trans Tryz.func54,by kernel_rfl,by kernel_rfl,by kernel_rfl⟩
  · exact ⟨_,(tw_ne (by decide)).trans Tryz.func55,by kernel_rfl,by kernel_rfl,by kernel_rfl⟩
  · exact ⟨_,(tw_ne (by decide)).trans Tryz.func56,by kernel_rfl,by kernel_rfl,by kernel_rfl⟩
  · exact ⟨_,(tw_ne (by decide)).trans Tryz.func57,by kernel_rfl,by kernel_rfl,by kernel_rfl⟩
  · exact ⟨_,(tw_ne (by decide)).trans Tryz.func58,by kernel_rfl,by kernel_rfl,by kernel_rfl⟩
  · exact ⟨_,(tw_ne (by decide)).trans Tryz.func59,by kernel_rfl,by kernel_rfl,by kernel_rfl⟩
  · exact ⟨_,(tw_ne (by decide)).trans Tryz.func60,by kernel_rfl,by kernel_rfl,by kernel_rfl⟩
  · exact ⟨_,(tw_ne (by decide)).trans Tryz.func61,by kernel_rfl,by kernel_rfl,by kernel_rfl⟩
  · exact ⟨_,(tw_ne (by decide)).trans Tryz.func62,by kernel_rfl,by kernel_rfl,by kernel_rfl⟩
  · exact ⟨_,(tw_ne (by decide)).trans Tryz.func63,by kernel_rfl,by kernel_rfl,by kernel_rfl⟩
  · exact ⟨_,(tw_ne (by decide)).trans Tryz.func64,by kernel_rfl,by kernel_rfl,by kernel_rfl⟩
  · exact ⟨_,(tw_ne (by decide)).trans Tryz.func65,by kernel_rfl,by kernel_rfl,by kernel_rfl⟩
  · exact ⟨_,(tw_ne (by decide)).trans Tryz.func66,by kernel_rfl,by kernel_rfl,by kernel_rfl⟩
  · exact ⟨_,(tw_ne (by decide)).trans Tryz.func68,by kernel_rfl,by kernel_rfl,by kernel_rfl⟩
  · exact ⟨_,(tw_ne (by decide)).trans Tryz.func69,by kernel_rfl,by kernel_rfl,by kernel_rfl⟩
  · exact ⟨_,(tw_ne (by decide)).trans Tryz.func70,by kernel_rfl,by kernel_rfl,by kernel_rfl⟩
  · exact ⟨_,(tw_ne (by decide)).trans Tryz.func71,by kernel_rfl,by kernel_rfl,by kernel_rfl⟩
  · exact ⟨_,(tw_ne (by decide)).trans Tryz.func72,by kernel_rfl,by kernel_rfl,by kernel_rfl⟩
  · exact ⟨_,(tw_ne (by decide)).trans Tryz.func73,by kernel_rfl,by kernel_rfl,by kernel_rfl⟩
  · exact ⟨_,(tw_ne (by decide)).trans Tryz.func74,by kernel_rfl,by kernel_rfl,by kernel_rfl⟩
  · exact ⟨_,(tw_ne (by decide)).trans Tryz.func75,by kernel_rfl,by kernel_rfl,by kernel_rfl⟩
  · exact ⟨_,(tw_ne (by decide)).trans Tryz.func76,by kernel_rfl,by kernel_rfl,by kernel_rfl⟩
  · exact ⟨_,(tw_ne (by decide)).trans Tryz.func77,by kernel_rfl,by kernel_rfl,by kernel_rfl⟩
  · exact ⟨_,(tw_ne (by decide)).trans Tryz.func78,by kernel_rfl,by kernel_rfl,by kernel_rfl⟩
  · exact ⟨_,(tw_ne (by decide)).trans Tryz.func79,by kernel_rfl,by kernel_rfl,by kernel_rfl⟩
  · exact ⟨_,(tw_ne (by decide)).trans Tryz.func80,by kernel_rfl,by kernel_rfl,by kernel_rfl⟩
  · exact ⟨_,(tw_ne (by decide)).trans Tryz.func81,by kernel_rfl,by kernel_rfl,by kernel_rfl⟩
  · exact ⟨_,(tw_ne (by decide)).trans Tryz.func82,by kernel_rfl,by kernel_rfl,by kernel_rfl⟩
  · exact ⟨_,(tw_ne (by decide)).trans Tryz.func83,by kernel_rfl,by kernel_rfl,by kernel_rfl⟩
  · exact ⟨_,(tw_ne (by decide)).trans Tryz.func84,by kernel_rfl,by kernel_rfl,by kernel_rfl⟩
  · exact ⟨_,(tw_ne (by decide)).trans Tryz.func85,by kernel_rfl,by kernel_rfl,by kernel_rfl⟩
  · exact ⟨_,(tw_ne (by decide)).trans Tryz.func86,by kernel_rfl,by kernel_rfl,by kernel_rfl⟩
  · exact ⟨_,(tw_ne (by decide)).trans Tryz.func87,by kernel_rfl,by kernel_rfl,by kernel_rfl⟩
  · exact ⟨_,(tw_ne (by decide)).trans Tryz.func88,by kernel_rfl,by kernel_rfl,by kernel_rfl⟩
  · exact ⟨_,(tw_ne (by decide)).trans Tryz.func89,by kernel_rfl,by kernel_rfl,by kernel_rfl⟩
  · exact ⟨_,(tw_ne (by decide)).trans Tryz.func90,by kernel_rfl,by kernel_rfl,by kernel_rfl⟩
  · exact ⟨_,(tw_ne (by decide)).trans Tryz.func91,by kernel_rfl,by kernel_rfl,by kernel_rfl⟩
  · exact ⟨_,(tw_ne (by decide)).trans Tryz.func92,by kernel_rfl,by kernel_rfl,by kernel_rfl⟩
  · exact ⟨_,(tw_ne (by decide)).trans Tryz.func93,by kernel_rfl,by kernel_rfl,by kernel_rfl⟩
  · exact ⟨_,(tw_ne (by decide)).trans Tryz.func94,by kernel_rfl,by kernel_rfl,by kernel_rfl⟩
  · exact ⟨_,(tw_ne (by decide)).trans Tryz.func95,by kernel_rfl,by kernel_rfl,by kernel_rfl⟩
  · exact ⟨_,(tw_ne (by decide)).trans Tryz.func96,by kernel_rfl,by kernel_rfl,by kernel_rfl⟩
  · exact ⟨_,(tw_ne (by decide)).trans Tryz.func97,by kernel_rfl,by kernel_rfl,by kernel_rfl⟩
  · exact ⟨_,(tw_ne (by decide)).trans Tryz.func98,by kernel_rfl,by kernel_rfl,by kernel_rfl⟩
  · exact ⟨_,(tw_ne (by decide)).trans Tryz.func99,by kernel_rfl,by kernel_rfl,by kernel_rfl⟩
  · exact ⟨_,(tw_ne (by decide)).trans Tryz.func100,by kernel_rfl,by kernel_rfl,by kernel_rfl⟩
  · exact ⟨_,(tw_ne (by decide)).trans Tryz.func101,by kernel_rfl,by kernel_rfl,by kernel_rfl⟩
  · exact ⟨_,(tw_ne (by decide)).trans Tryz.func102,by kernel_rfl,by kernel_rfl,by kernel_rfl⟩
  · exact ⟨_,(tw_ne (by decide)).trans Tryz.func103,by kernel_rfl,by kernel_rfl,by kernel_rfl⟩
  · exact ⟨_,(tw_ne (by decide)).trans Tryz.func104,by kernel_rfl,by kernel_rfl,by kernel_rfl⟩
  · exact ⟨_,(tw_ne (by decide)).trans Tryz.func105,by kernel_rfl,by kernel_rfl,by kernel_rfl⟩
  · exact ⟨_,(tw_ne (by decide)).trans Tryz.func106,by kernel_rfl,by kernel_rfl,by kernel_rfl⟩
  · exact ⟨_,(tw_ne (by decide)).trans Tryz.func107,by kernel_rfl,by kernel_rfl,by kernel_rfl⟩
  · exact ⟨_,(tw_ne (by decide)).trans Tryz.func108,by kernel_rfl,by kernel_rfl,by kernel_rfl⟩
  · exact ⟨_,(tw_ne (by decide)).trans Tryz.func128,by kernel_rfl,by kernel_rfl,by kernel_rfl⟩
  · exact ⟨_,(tw_ne (by decide)).trans Tryz.func129,by kernel_rfl,by kernel_rfl,by kernel_rfl⟩
  · exact ⟨_,(tw_ne (by decide)).trans Tryz.func130,by kernel_rfl,by kernel_rfl,by kernel_rfl⟩
  · exact ⟨_,(tw_ne (by decide)).trans Tryz.func131,by kernel_rfl,by kernel_rfl,by kernel_rfl⟩
  · exact ⟨_,(tw_ne (by decide)).trans Tryz.func132,by kernel_rfl,by kernel_rfl,by kernel_rfl⟩
  · exact ⟨_,(tw_ne (by decide)).trans Tryz.func133,by kernel_rfl,by kernel_rfl,by kernel_rfl⟩
theorem ent_plain {x:FuncId} {fn:Func} (hx:x ≠ 43) (h:Tryz.prog.funcs[x]?=some fn) {c:Code} (hb:fn.body=some c) (h3:Calm (okDy tw Sn x) (Fn x) c) (l:Array Value):Idle (okDy tw Sn x) (Fn x) (Frame.enter tw x l .normal):=by
  refine .plain (fun i hi=>?_)
  have e:tw.funcs[x]?=some fn:=(tw_ne hx).trans h
  have ht:(Frame.enter tw x l .normal).todo=[.code c]:=by simp [Frame.enter,e,hb]
  rw [ht] at hi
  simp only [List.mem_singleton] at hi
  subst hi
  exact h3
theorem entS:∀ x ∈ Sn,∀ l,Idle (okDy tw Sn x) (Fn x) (Frame.enter tw x l .normal):=by
  intro x hx l
  simp only [List.mem_cons,List.not_mem_nil,or_false] at hx
  rcases hx with rfl | rfl | rfl | rfl | rfl | rfl | rfl | rfl | rfl | rfl | rfl | rfl | rfl | rfl | rfl | rfl | rfl | rfl | rfl | rfl | rfl | rfl | rfl | rfl | rfl | rfl | rfl | rfl | rfl | rfl | rfl | rfl | rfl | rfl | rfl | rfl | rfl | rfl | rfl | rfl | rfl | rfl | rfl | rfl | rfl | rfl | rfl | rfl | rfl | rfl | rfl | rfl | rfl | rfl | rfl | rfl | rfl | rfl | rfl | rfl | rfl | rfl | rfl | rfl | rfl | rfl | rfl | rfl | rfl | rfl | rfl | rfl | rfl | rfl | rfl | rfl | rfl | rfl | rfl | rfl | rfl | rfl | rfl | rfl | rfl | rfl | rfl | rfl | rfl | rfl | rfl | rfl | rfl | rfl | rfl | rfl | rfl | rfl | rfl | rfl | rfl | rfl | rfl | rfl | rfl | rfl | rfl | rfl | rfl | rfl
  · exact ent_plain (by decide) Tryz.func3 (c:=(Tryz.f3.body).getD .skip) (by kernel_rfl) (calm_of (by kernel_rfl)) l
  · exact ent_plain (by decide) Tryz.func4 (c:=(Tryz.f4.body).getD .skip) (by kernel_rfl) (calm_of (by kernel_rfl)) l
  · exact ent_plain (by decide) Tryz.func5 (c:=(Tryz.f5.body).getD .skip) (by kernel_rfl) (calm_of (by kernel_rfl)) l
  · exact ent_plain (by decide) Tryz.func6 (c:=(Tryz.f6.body).getD .skip) (by kernel_rfl) (calm_of (by kernel_rfl)) l
  · exact ent_plain (by decide) Tryz.func7 (c:=(Tryz.f7.body).getD .skip) (by kernel_rfl) (calm_of (by kernel_rfl)) l
  · exact ent_plain (by decide) Tryz.func8 (c:=(Tryz.f8.body).getD .skip) (by kernel_rfl) (calm_of (by kernel_rfl)) l
  · exact ent_plain (by decide) Tryz.func9 (c:=(Tryz.f9.body).getD .skip) (by kernel_rfl) (calm_of (by kernel_rfl)) l
  · exact ent_plain (by decide) Tryz.func10 (c:=(Tryz.f10.body).getD .skip) (by kernel_rfl) (calm_of (by kernel_rfl)) l
  · exact ent_plain (by decide) Tryz.func11 (c:=(Tryz.f11.body).getD .skip) (by kernel_rfl) (calm_of (by kernel_rfl)) l
  · exact ent_plain (by decide) Tryz.func12 (c:=(Tryz.f12.body).getD .skip) (by kernel_rfl) (calm_of (by kernel_rfl)) l
  · exact ent_plain (by decide) Tryz.func13 (c:=(Tryz.f13.body).getD .skip) (by kernel_rfl) (calm_of (by kernel_rfl)) l
  · exact ent_plain (by decide) Tryz.func14 (c:=(Tryz.f14.body).getD .skip) (by kernel_rfl) (calm_of (by kernel_rfl)) l
  · exact ent_plain (by decide) Tryz.func15 (c:=(Tryz.f15.body).getD .skip) (by kernel_rfl) (calm_of (by kernel_rfl)) l
  · exact ent_plain (by decide) Tryz.func16 (c:=(Tryz.f16.body).getD .skip) (by kernel_rfl) (calm_of (by kernel_rfl)) l
  · exact ent_plain (by decide) Tryz.func17 (c:=(Tryz.f17.body).getD .skip) (by kernel_rfl) (calm_of (by kernel_rfl)) l
  · exact ent_plain (by decide) Tryz.func18 (c:=(Tryz.f18.body).getD .skip) (by kernel_rfl) (calm_of (by kernel_rfl)) l
  · exact ent_plain (by decide) Tryz.func19 (c:=b9) (by kernel_rfl) calm9 l
  · exact ent_plain (by decide) Tryz.func20 (c:=(Tryz.f20.body).getD .skip) (by kernel_rfl) (calm_of (by kernel_rfl)) l
  · exact ent_plain (by decide) Tryz.func21 (c:=(Tryz.f21.body).getD .skip) (by kernel_rfl) (calm_of (by kernel_rfl)) l
  · exact ent_plain (by decide) Tryz.func22 (c:=(Tryz.f22.body).getD .skip) (by kernel_rfl) (calm_of (by kernel_rfl)) l
  · exact ent_plain (by decide) Tryz.func23 (c:=(Tryz.f23.body).getD .skip) (by kernel_rfl) (calm_of (by kernel_rfl)) l
  · exact ent_plain (by decide) Tryz.func24 (c:=(Tryz.f24.body).getD .skip) (by kernel_rfl) (calm_of (by kernel_rfl)) l
  · exact ent_plain (by decide) Tryz.func25 (c:=(Tryz.f25.body).getD .skip) (by kernel_rfl) (calm_of (by kernel_rfl)) l
  · exact ent_plain (by decide) Tryz.func26 (c:=(Tryz.f26.body).getD .skip) (by kernel_rfl) (calm_of (by kernel_rfl)) l
  · exact ent_plain (by decide) Tryz.func27 (c:=(Tryz.f27.body).getD .skip) (by kernel_rfl) (calm_of (by kernel_rfl)) l
  · exact ent_plain (by decide) Tryz.func28 (c:=(Tryz.f28.body).getD .skip) (by kernel_rfl) (calm_of (by kernel_rfl)) l
  · exact ent_plain (by decide) Tryz.func29 (c:=(Tryz.f29.body).getD .skip) (by kernel_rfl) (calm_of (by kernel_rfl)) l
  · exact ent_plain (by decide) Tryz.func30 (c:=(Tryz.f30.body).getD .skip) (by kernel_rfl) (calm_of (by kernel_rfl)) l
  · exact ent_plain (by decide) Tryz.func31 (c:=(Tryz.f31.body).getD .skip) (by kernel_rfl) (calm_of (by kernel_rfl)) l
  · exact ent_plain (by decide) Tryz.func32 (c:=(Tryz.f32.body).getD .skip) (by kernel_rfl) (calm_of (by kernel_rfl)) l
  · exact ent_plain (by decide) Tryz.func33 (c:=(Tryz.f33.body).getD .skip) (by kernel_rfl) (calm_of (by kernel_rfl)) l
  · exact ent_plain (by decide) Tryz.func34 (c:=(Tryz.f34.body).getD .skip) (by kernel_rfl) (calm_of (by kernel_rfl)) l
  · exact ent_plain (by decide) Tryz.func35 (c:=(Tryz.f35.body).getD .skip) (by kernel_rfl) (calm_of (by kernel_rfl)) l
  · exact ent_plain (by decide) Tryz.func36 (c:=(Tryz.f36.body).getD .skip) (by kernel_rfl) (calm_of (by kernel_rfl)) l
  · exact ent_plain (by decide) Tryz.func37 (c:=(Tryz.f37.body).getD .skip) (by kernel_rfl) (calm_of (by kernel_rfl)) l
  · exact ent_plain (by decide) Tryz.func38 (c:=(Tryz.f38.body).getD .skip) (by kernel_rfl) (calm_of (by kernel_rfl)) l
  · exact ent_plain (by decide) Tryz.func39 (c:=(Tryz.f39.body).getD .skip) (by kernel_rfl) (calm_of (by kernel_rfl)) l
  · exact ent_plain (by decide) Tryz.func40 (c:=(Tryz.f40.body).getD .skip) (by kernel_rfl) (calm_of (by kernel_rfl)) l
  · exact ent_plain (by decide) Tryz.func41 (c:=(Tryz.f41.body).getD .skip) (by kernel_rfl) (calm_of (by kernel_rfl)) l
  · exact ent_plain (by decide) Tryz.func42 (c:=(Tryz.f42.body).getD .skip) (by kernel_rfl) (calm_of (by kernel_rfl)) l
  · exact ent_plain (by decide) Tryz.func44 (c:=(Tryz.f44.body).getD .skip) (by kernel_rfl) (calm_of (by kernel_rfl)) l
  · exact ent_plain (by decide) Tryz.func45 (c:=(Tryz.f45.body).getD .skip) (by kernel_rfl) (calm_of (by kernel_rfl)) l
  · exact ent_plain (by decide) Tryz.func46 (c:=(Tryz.f46.body).getD .skip) (by kernel_rfl) (calm_of (by kernel_rfl)) l
  · exact ent_plain (by decide) Tryz.func47 (c:=(Tryz.f47.body).getD .skip) (by kernel_rfl) (calm_of (by kernel_rfl)) l
  · exact ent_plain (by decide) Tryz.func48 (c:=(Tryz.f48.body).getD .skip) (by kernel_rfl) (calm_of (by kernel_rfl)) l
  · exact ent_plain (by decide) Tryz.func49 (c:=(Tryz.f49.body).getD .skip) (by kernel_rfl) (calm_of (by kernel_rfl)) l
  · exact ent_plain (by decide) Tryz.func50 (c:=(Tryz.f50.body).getD .skip) (by kernel_rfl) (calm_of (by kernel_rfl)) l
  · exact ent_plain (by decide) Tryz.func51 (c:=(Tryz.f51.body).getD .skip) (by kernel_rfl) (calm_of (by kernel_rfl)) l
  · exact ent_plain (by decide) Tryz.func52 (c:=(Tryz.f52.body).getD .skip) (by kernel_rfl) (calm_of (by kernel_rfl)) l
  · exact ent_plain (by decide) Tryz.func53 (c:=(Tryz.f53.body).getD .skip) (by kernel_rfl) (calm_of (by kernel_rfl)) l
  · exact ent_plain (by decide) Tryz.func54 (c:=(Tryz.f54.body).getD .skip) (by kernel_rfl) (calm_of (by kernel_rfl)) l
  · exact ent_plain (by decide) Tryz.func55 (c:=(Tryz.f55.body).getD .skip) (by kernel_rfl) (calm_of (by kernel_rfl)) l
  · exact ent_plain (by decide) Tryz.func56 (c:=(Tryz.f56.body).getD .skip) (by kernel_rfl) (calm_of (by kernel_rfl)) l
  · exact ent_plain (by decide) Tryz.func57 (c:=(Tryz.f57.body).getD .skip) (by kernel_rfl) (calm_of (by kernel_rfl)) l
  · exact ent_plain (by decide) Tryz.func58 (c:=(Tryz.f58.body).getD .skip) (by kernel_rfl) (calm_of (by kernel_rfl)) l
  · exact ent_plain (by decide) Tryz.func59 (c:=(Tryz.f59.body).getD .skip) (by kernel_rfl) (calm_of (by kernel_rfl)) l
  · exact ent_plain (by decide) Tryz.func60 (c:=(Tryz.f60.body).getD .skip) (by kernel_rfl) (calm_of (by kernel_rfl)) l
  · exact ent_plain (by decide) Tryz.func61 (c:=(Tryz.f61.body).getD .skip) (by kernel_rfl) (calm_of (by kernel_rfl)) l
  · exact ent_plain (by decide) Tryz.func62 (c:=(Tryz.f62.body).getD .skip) (by kernel_rfl) (calm_of (by kernel_rfl)) l
  · exact ent_plain (by decide) Tryz.func63 (c:=(Tryz.f63.body).getD .skip) (by kernel_rfl) (calm_of (by kernel_rfl)) l
  · exact ent_plain (by decide) Tryz.func64 (c:=(Tryz.f64.body).getD .skip) (by kernel_rfl) (calm_of (by kernel_rfl)) l
  · exact ent_plain (by decide) Tryz.func65 (c:=(Tryz.f65.body).getD .skip) (by kernel_rfl) (calm_of (by kernel_rfl)) l
  · exact ent_plain (by decide) Tryz.func66 (c:=(Tryz.f66.body).getD .skip) (by kernel_rfl) (calm_of (by kernel_rfl)) l
  · exact ent_plain (by decide) Tryz.func68 (c:=(Tryz.f68.body).getD .skip) (by kernel_rfl) (calm_of (by kernel_rfl)) l
  · exact ent_plain (by decide) Tryz.func69 (c:=(Tryz.f69.body).getD .skip) (by kernel_rfl) (calm_of (by kernel_rfl)) l
  · exact ent_plain (by decide) Tryz.func70 (c:=(Tryz.f70.body).getD .skip) (by kernel_rfl) (calm_of (by kernel_rfl)) l
  · exact ent_plain (by decide) Tryz.func71 (c:=(Tryz.f71.body).getD .skip) (by kernel_rfl) (calm_of (by kernel_rfl)) l
  · exact ent_plain (by decide) Tryz.func72 (c:=(Tryz.f72.body).getD .skip) (by kernel_rfl) (calm_of (by kernel_rfl)) l
  · exact ent_plain (by decide) Tryz.func73 (c:=(Tryz.f73.body).getD .skip) (by kernel_rfl) (calm_of (by kernel_rfl)) l
  · exact ent_plain (by decide) Tryz.func74 (c:=(Tryz.f74.body).getD .skip) (by kernel_rfl) (calm_of (by kernel_rfl)) l
  · exact ent_plain (by decide) Tryz.func75 (c:=(Tryz.f75.body).getD .skip) (by kernel_rfl) (calm_of (by kernel_rfl)) l
  · exact ent_plain (by decide) Tryz.func76 (c:=(Tryz.f76.body).getD .skip) (by kernel_rfl) (calm_of (by kernel_rfl)) l
  · exact ent_plain (by decide) Tryz.func77 (c:=(Tryz.f77.body).getD .skip) (by kernel_rfl) (calm_of (by kernel_rfl)) l
  · exact ent_plain (by decide) Tryz.func78 (c:=(Tryz.f78.body).getD .skip) (by kernel_rfl) (calm_of (by kernel_rfl)) l
  · exact ent_plain (by decide) Tryz.func79 (c:=(Tryz.f79.body).getD .skip) (by kernel_rfl) (calm_of (by kernel_rfl)) l
  · exact ent_plain (by decide) Tryz.func80 (c:=(Tryz.f80.body).getD .skip) (by kernel_rfl) (calm_of (by kernel_rfl)) l
  · exact ent_plain (by decide) Tryz.func81 (c:=(Tryz.f81.body).getD .skip) (by kernel_rfl) (calm_of (by kernel_rfl)) l
  · exact ent_plain (by decide) Tryz.func82 (c:=(Tryz.f82.body).getD .skip) (by kernel_rfl) (calm_of (by kernel_rfl)) l
  · exact ent_plain (by decide) Tryz.func83 (c:=(Tryz.f83.body).getD .skip) (by kernel_rfl) (calm_of (by kernel_rfl)) l
  · exact ent_plain (by decide) Tryz.func84 (c:=(Tryz.f84.body).getD .skip) (by kernel_rfl) (calm_of (by kernel_rfl)) l
  · exact ent_plain (by decide) Tryz.func85 (c:=(Tryz.f85.body).getD .skip) (by kernel_rfl) (calm_of (by kernel_rfl)) l
  · exact ent_plain (by decide) Tryz.func86 (c:=(Tryz.f86.body).getD .skip) (by kernel_rfl) (calm_of (by kernel_rfl)) l
  · exact ent_plain (by decide) Tryz.func87 (c:=(Tryz.f87.body).getD .skip) (by kernel_rfl) (calm_of (by kernel_rfl)) l
  · exact ent_plain (by decide) Tryz.func88 (c:=(Tryz.f88.body).getD .skip) (by kernel_rfl) (calm_of (by kernel_rfl)) l
  · exact ent_plain (by decide) Tryz.func89 (c:=(Tryz.f89.body).getD .skip) (by kernel_rfl) (calm_of (by kernel_rfl)) l
  · exact ent_plain (by decide) Tryz.func90 (c:=(Tryz.f90.body).getD .skip) (by kernel_rfl) (calm_of (by kernel_rfl)) l
  · exact ent_plain (by decide) Tryz.func91 (c:=(Tryz.f91.body).getD .skip) (by kernel_rfl) (calm_of (by kernel_rfl)) l
  · exact ent_plain (by decide) Tryz.func92 (c:=(Tryz.f92.body).getD .skip) (by kernel_rfl) (calm_of (by kernel_rfl)) l
  · exact ent_plain (by decide) Tryz.func93 (c:=(Tryz.f93.body).getD .skip) (by kernel_rfl) (calm_of (by kernel_rfl)) l
  · exact ent_plain (by decide) Tryz.func94 (c:=(Tryz.f94.body).getD .skip) (by kernel_rfl) (calm_of (by kernel_rfl)) l
  · exact ent_plain (by decide) Tryz.func95 (c:=(Tryz.f95.body).getD .skip) (by kernel_rfl) (calm_of (by kernel_rfl)) l
  · exact ent_plain (by decide) Tryz.func96 (c:=(Tryz.f96.body).getD .skip) (by kernel_rfl) (calm_of (by kernel_rfl)) l
  · exact ent_plain (by decide) Tryz.func97 (c:=(Tryz.f97.body).getD .skip) (by kernel_rfl) (calm_of (by kernel_rfl)) l
  · exact ent_plain (by decide) Tryz.func98 (c:=(Tryz.f98.body).getD .skip) (by kernel_rfl) (calm_of (by kernel_rfl)) l
  · exact ent_plain (by decide) Tryz.func99 (c:=(Tryz.f99.body).getD .skip) (by kernel_rfl) (calm_of (by kernel_rfl)) l
  · exact ent_plain (by decide) Tryz.func100 (c:=(Tryz.f100.body).getD .skip) (by kernel_rfl) (calm_of (by kernel_rfl)) l
  · exact ent_plain (by decide) Tryz.func101 (c:=(Tryz.f101.body).getD .skip) (by kernel_rfl) (calm_of (by kernel_rfl)) l
  · exact ent_plain (by decide) Tryz.func102 (c:=(Tryz.f102.body).getD .skip) (by kernel_rfl) (calm_of (by kernel_rfl)) l
  · exact ent_plain (by decide) Tryz.func103 (c:=(Tryz.f103.body).getD .skip) (by kernel_rfl) (calm_of (by kernel_rfl)) l
  · exact ent_plain (by decide) Tryz.func104 (c:=(Tryz.f104.body).getD .skip) (by kernel_rfl) (calm_of (by kernel_rfl)) l
  · exact ent_plain (by decide) Tryz.func105 (c:=(Tryz.f105.body).getD .skip) (by kernel_rfl) (calm_of (by kernel_rfl)) l
  · exact ent_plain (by decide) Tryz.func106 (c:=(Tryz.f106.body).getD .skip) (by kernel_rfl) (calm_of (by kernel_rfl)) l
  · exact ent_plain (by decide) Tryz.func107 (c:=(Tryz.f107.body).getD .skip) (by kernel_rfl) (calm_of (by kernel_rfl)) l
  · exact ent_plain (by decide) Tryz.func108 (c:=(Tryz.f108.body).getD .skip) (by kernel_rfl) (calm_of (by kernel_rfl)) l
  · exact ent_plain (by decide) Tryz.func128 (c:=(Tryz.f128.body).getD .skip) (by kernel_rfl) (calm_of (by kernel_rfl)) l
  · exact ent_plain (by decide) Tryz.func129 (c:=(Tryz.f129.body).getD .skip) (by kernel_rfl) (calm_of (by kernel_rfl)) l
  · exact ent_plain (by decide) Tryz.func130 (c:=(Tryz.f130.body).getD .skip) (by kernel_rfl) (calm_of (by kernel_rfl)) l
  · exact ent_plain (by decide) Tryz.func131 (c:=(Tryz.f131.body).getD .skip) (by kernel_rfl) (calm_of (by kernel_rfl)) l
  · exact ent_plain (by decide) Tryz.func132 (c:=(Tryz.f132.body).getD .skip) (by kernel_rfl) (calm_of (by kernel_rfl)) l
  · exact ent_plain (by decide) Tryz.func133 (c:=(Tryz.f133.body).getD .skip) (by kernel_rfl) (calm_of (by kernel_rfl)) l
theorem steps_tw (b:Nat):tw.stepOf b=none:=steps_none (T:=Tryz.prog.toTables) (fs:=twF) (by kernel_rfl) b
theorem env:Env Tryz.prog.toTables twF Tryz.prog.funcs okc Sn Sp Fn:=by
  refine ⟨fineS,fineP,steps_tw,step_try,fun x L h=>?_,fun x L h=>?_,fun x L h=>?_,fun x L h=>?_,fun x L h=>?_,fun x L h fn e=>?_,entS,slots,fun x L h o ho=>?_,fun x L h=>?_⟩
  all_goals obtain ⟨rfl,rfl⟩:=fn_cases h
  · exact lp9
  · exact lq9
  · exact o5_9
  · rfl
  · obtain ⟨o,X,Y,ts,h1,h2,h3,h4⟩:=call9
    rw [h1];exact h3
  · rw [tw_ne (by decide),Tryz.func19] at e
    cases e
    rw [Tryz.ntmps19]
    decide
  · obtain ⟨o',X,Y,ts,h1,h2,h3,h4⟩:=call9
    rw [h1] at ho
    cases ho
    rw [h4]
    rfl
  · have hP:∀ P:Program,(P=⟨Tryz.prog.toTables,twF⟩\/P=⟨Tryz.prog.toTables,Tryz.prog.funcs⟩)->(∀ w es,(underlying 73).runT P w es=(.ok (.chan .recv 76) w,es))/\∀ w es,(zeroValue 76).runT P w es=(.ok z48 w,es):=by
      rintro P (rfl | rfl)
      · exact ⟨run_under Tryz.underlying73,run_zero info48z⟩
      · exact ⟨run_under Tryz.underlying73,run_zero info48z⟩
    obtain ⟨o,h1,h2,h3,h4⟩:=of_map (show (L9.ops[0]?).map _=some (none,some 32,.recv 73 (.tmp 31) true) by kernel_rfl)
    exact ⟨o,_,_,_,_,h1,h4,wanted_any h2,hP⟩
theorem callsT:CallT Tryz.prog.toTables twF okc Sn Fn Vc:=callT (fun x L h=>by
  obtain ⟨rfl,rfl⟩:=fn_cases h
  obtain ⟨o,X,Y,ts,h1,h2,h3,h4⟩:=call9
  exact ⟨o,X,Y,ts,h1,h2,h4⟩)
end Go.Proofs.YteaieagkjepgiaaGreatDoor
