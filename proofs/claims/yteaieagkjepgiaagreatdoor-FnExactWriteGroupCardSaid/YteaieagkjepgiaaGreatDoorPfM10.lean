/- Texts of ours, laid one behind the other: SpnB, StI, SgF, SgG, SgH, SgI. -/
import Derived.Test.YteaieagkjepgiaaGreatDoorPfM9
import Derived.Deep.AppendLies
set_option linter.unusedVariables false
set_option linter.unusedSimpArgs false
/- . -/
namespace Go.Proofs.YteaieagkjepgiaaGreatDoor
set_option maxRecDepth 100000
open Go.RowKit
attribute [local go_sem ↓] Go.wp_at_zero Go.wp_at_succ
end Go.Proofs.YteaieagkjepgiaaGreatDoor
/- . -/
namespace Go.Proofs.YteaieagkjepgiaaGreatDoor
set_option maxRecDepth 100000
open Go.RowKit
attribute [local go_sem ↓] Go.wp_at_zero Go.wp_at_succ
theorem implSch (s:Int) (w:World):Calls Tryz.prog 41 #[.int .i64 s] w fun e w'=>SchPost s w e w':=by
  cases h:schOk s with
  | true =>
    obtain rfl | rfl | rfl:=sch_cases h
    all_goals
      clear h
      go_enter Tryz.func41,Tryz.ntmps41
      go_wp2_with fail
      go_ret3
      exact ⟨rfl,rfl⟩
  | false =>
    obtain ⟨h1,h2,h3⟩:=sch_no h
    obtain ⟨e1,e2⟩:=sch_zero h
    unfold SchPost
    rw [e1,e2,h]
    clear h e1 e2
    go_enter Tryz.func41,Tryz.ntmps41
    go_wp2_with fail
    go_ret3
    exact ⟨rfl,rfl⟩
theorem implSize (s:Int) (w:World):Calls Tryz.prog 42 #[.int .i64 s] w fun e w'=>e = .returned (.int .i64 (groupN s:Nat))/\w'=w:=by
  have HS:=Shut.mk (fun W=>implSch s W)
  unfold SchPost at HS
  have hk:schK s<=4:=by
    cases h:schOk s with
    | true=>exact (sch_bounds h).2.1
    | false=>rw [(sch_zero h).1];omega
  have hg:((groupN s:Nat):Int)=(schK s:Int)*4*2:=by unfold groupN;push_cast;omega
  generalize schOk s=ok at *
  generalize schM s=m at *
  generalize schK s=k at *
  have HG:=Shut.mk hg
  clear hg
  go_enter Tryz.func42,Tryz.ntmps42
  go_wp2_with fail
  refine (HS.out _).mono ?_
  rintro e w1 ⟨rfl,rfl⟩
  go_wp2_with fail
  go_ret
  exact ⟨by rw [HG.out];first | rfl | (simp;done) | (congr 2;omega),rfl⟩
set_option maxHeartbeats 2000000 in
theorem implPlaceOf (s off:Int) (w:World):Calls Tryz.prog 84 #[.int .i64 s,.int .i64 off] w fun e w'=>PlacePost s off w e w':=by
  have HS:=Shut.mk (fun W=>implSch s W)
  unfold SchPost at HS
  have HG:=Shut.mk (fun W=>implSize s W)
  unfold PlacePost
  cases h:schOk s with
  | false =>
    have e0:placeX s off=(0,0,0):=by unfold placeX;rw [if_neg (by rw [h];simp)]
    rw [e0]
    rw [h] at HS
    clear h e0
    generalize schK s=k at *
    generalize schM s=m at *
    go_enter Tryz.func84,Tryz.ntmps84
    go_wp2_with fail
    refine (HS.out _).mono ?_
    rintro e w1 ⟨rfl,rfl⟩
    go_wp2_with fail
    go_ret3
    exact ⟨rfl,Below.refl _ _⟩
  | true =>
    rw [h] at HS
    obtain ⟨b1,b2,_,_⟩:=sch_bounds h
    by_cases ho:0<=off/\off<=100000
    · obtain ⟨o,rfl⟩:=Int.eq_ofNat_of_zero_le ho.1
      have ho5:o<=100000:=by omega
      have hl0:¬ (o:Int)<0:=by omega
      have hl1:¬ (100000:Int)<(o:Int):=by omega
      have e0:placeX s (o:Int)=(o / (schK s*8),unitAt (schK s) o,placeIn (schK s) o):=by unfold placeX;rw [if_pos ⟨h,ho⟩];rfl
      rw [e0]
      unfold groupN at HG
      clear h ho e0
      generalize schM s=m at *
      generalize schK s=k at *
      obtain ⟨S,hS⟩:∃ S,S=k*8:=⟨_,rfl⟩
      have hS0:0<S:=by omega
      have hS32:S<=32:=by omega
      have e1:((o:Int) % (S:Int))=((o % S:Nat):Int):=by push_cast;rfl
      have e2:((o:Int) / (S:Int))=((o / S:Nat):Int):=by push_cast;rfl
      have hb:o % S<S:=Nat.mod_lt _ hS0
      have e3:((o % S:Nat):Int) / 4=((o % S / 4:Nat):Int):=by push_cast;rfl
      have e4:((o % S:Nat):Int) % 4=((o % S % 4:Nat):Int):=by push_cast;rfl
      have e5:((o % S / 4:Nat):Int) % (k:Int)=((unitAt k o:Nat):Int):=by unfold unitAt;rw [<-hS];push_cast;rfl
      have e6:((o % S / 4:Nat):Int) / (k:Int)=((o % S / 4 / k:Nat):Int):=by push_cast;rfl
      have e7:((placeIn k o:Nat):Int)=((o % S / 4 / k:Nat):Int)*4+((o % S % 4:Nat):Int):=by unfold placeIn;rw [<-hS];push_cast;rfl
      have hc8:o % S / 4<=8:=by omega
      have hd:o % S / 4 / k<=8:=Nat.le_trans (Nat.div_le_self _ _) hc8
      have hr:o % S % 4<4:=Nat.mod_lt _ (by omega)
      have hqq:o / S<=100000:=Nat.le_trans (Nat.div_le_self _ _) ho5
      rw [<-hS] at HG ⊢
      generalize unitAt k o=u at *
      generalize placeIn k o=pl at *
      generalize o % S % 4=r at *
      generalize o % S / 4 / k=d at *
      generalize o % S / 4=c at *
      generalize o % S=b at *
      generalize o / S=q at *
      have HE:=Shut.mk e7
      have hSn:((S:Int)==0)=false:=by rw [beq_eq_false_iff_ne];omega
      have hkn:((k:Int)==0)=false:=by rw [beq_eq_false_iff_ne];omega
      have s0:(0:Int)<(S:Int):=by omega
      have k0:(0:Int)<(k:Int):=by omega
      have t1:(o:Int).tmod (S:Int)=(b:Int):=by rw [Int.tmod_eq_emod_of_nonneg (by omega)];exact e1
      have t2:(o:Int).tdiv (S:Int)=(q:Int):=by rw [Int.tdiv_eq_ediv_of_nonneg (by omega)];exact e2
      have t3:(b:Int).tdiv 4=(c:Int):=by rw [Int.tdiv_eq_ediv_of_nonneg (by omega)];exact e3
      have t4:(b:Int).tmod 4=(r:Int):=by rw [Int.tmod_eq_emod_of_nonneg (by omega)];exact e4
      have t5:(c:Int).tmod (k:Int)=(u:Int):=by rw [Int.tmod_eq_emod_of_nonneg (by omega)];exact e5
      have t6:(c:Int).tdiv (k:Int)=(d:Int):=by rw [Int.tdiv_eq_ediv_of_nonneg (by omega)];exact e6
      clear e7 hS
      go_enter Tryz.func84,Tryz.ntmps84
      go_wp2_with fail
      refine (HS.out _).mono ?_
      rintro e w1 ⟨rfl,rfl⟩
      go_wp2_with fail
      go_quiet ((go_at_call 42;exact Calls.quiet_of_same (HG.out _)))
      go_wp2_with fail
      go_quiet (fail)
      go_wp2_with fail
      go_ret3
      exact ⟨by rw [HE.out];rfl,⟨rfl,rfl,rfl,Nat.le_refl _,fun _ _=>rfl⟩⟩
    · have e0:placeX s off=(0,0,0):=by unfold placeX;rw [if_neg (fun q=>ho q.2)]
      rw [e0]
      clear h e0
      generalize schK s=k at *
      generalize schM s=m at *
      by_cases hl0:off<0
      · clear ho
        go_enter Tryz.func84,Tryz.ntmps84
        go_wp2_with fail
        refine (HS.out _).mono ?_
        rintro e w1 ⟨rfl,rfl⟩
        go_wp2_with fail
        go_ret3
        exact ⟨rfl,Below.refl _ _⟩
      · have hl1:(100000:Int)<off:=by omega
        clear ho
        go_enter Tryz.func84,Tryz.ntmps84
        go_wp2_with fail
        refine (HS.out _).mono ?_
        rintro e w1 ⟨rfl,rfl⟩
        go_wp2_with fail
        go_ret3
        exact ⟨rfl,Below.refl _ _⟩
end Go.Proofs.YteaieagkjepgiaaGreatDoor
/- . -/
namespace Go.Proofs.YteaieagkjepgiaaGreatDoor
set_option maxRecDepth 100000
open Go.Conc
def cellV (a b u t:Int):Value:=.agg #[.int .i64 a,.int .i64 b,.int .i64 u,.int .i64 t]
def cellsF (s:Int) (n:Nat):Nat->Nat->List Value
  | 0,_=>[]
  | k+1,i=>if i<n then cellV i (min (i+4) n:Nat) ((placeX s i).2.1:Nat) ((placeX s i).2.2:Nat)::cellsF s n k (i+4) else []
theorem getD_ne {tmps:Array Value} {d t:Nat} {v:Value} (h:t ≠ d):(tmps.setIfInBounds d v).getD t undef=tmps.getD t undef:=by
  simp [Array.getD_eq_getD_getElem?,Array.getElem?_setIfInBounds_ne (Ne.symm h)]
theorem getD_eq {tmps:Array Value} {d:Nat} {v:Value} (h:d<tmps.size):(tmps.setIfInBounds d v).getD d undef=v:=by
  simp [Array.getD_eq_getD_getElem?,h]
theorem free_ok (P:Program) (S:List FuncId) (o:Op) (h:freeOp P S o=true):okOp P S o=true:=by
  unfold freeOp at h
  split at h
  all_goals first
    | rfl
    | (cases h;done)
    | skip
  · simp only [Bool.and_eq_true] at h
    obtain ⟨_,h4⟩:=h
    unfold okOp
    split at h4
    · rename_i hu
      simp [flatD,hu,flat]
    · cases h4
  · simp only [Bool.and_eq_true] at h
    exact h.1
abbrev Spl:List FuncId:=[41,42,84]
theorem known_try {x:FuncId} {fn:Func} (h:Tryz.prog.funcs[x]?=some fn) (h1:fn.body.isNone=false) (h2:(fn.name == "runtime.NumGoroutine")=false):Known Tryz.prog.funcs Tryz.prog.funcs x:=⟨rfl,fn,h,h1,h2⟩
theorem fine_try {ok:Op->Bool} {x:FuncId} {fn:Func} (h:Tryz.prog.funcs[x]?=some fn) (h1:fn.body.isNone=false) (h2:(fn.name == "runtime.NumGoroutine")=false) (h3:okCode ok (fn.body.getD .skip)=true):Fine ok Tryz.prog.funcs Tryz.prog.funcs x:=⟨known_try h h1 h2,fun fn' e=>by rw [h] at e;cases e;exact h3⟩
theorem steps_none {fs:Array Func} {T:Tables} (h:fs.all (fun f=>((f.body.map readies).getD []).isEmpty)=true) (b:Nat):(⟨T,fs⟩:Program).stepOf b=none:=by
  show fs.findIdx? _=none
  rw [Array.findIdx?_eq_none_iff]
  intro f hf
  have:=Array.all_eq_true_iff_forall_mem.1 h f hf
  cases hb:f.body with
  | none=>rfl
  | some c =>
    rw [hb] at this
    have e:readies c=[]:=by simpa using this
    simp [e]
theorem step_try (b:Nat):Tryz.prog.stepOf b=none:=steps_none (T:=Tryz.prog.toTables) (fs:=Tryz.prog.funcs) (by kernel_rfl) b
theorem res_try {x:FuncId} {fn fn':Func} (h:Tryz.prog.funcs[x]?=some fn) (h3:fn.results.all (fun r=>match r with | .tmp _=>true | _=>false)=true) (e:Tryz.prog.funcs[x]?=some fn'):fn'.results.all (fun r=>match r with | .tmp _=>true | _=>false)=true:=by
  rw [h] at e
  cases e
  exact h3
theorem plainly:Plainly3 Tryz.prog.toTables Tryz.prog.funcs Spl:=by
  refine ⟨fun x hx=>?_,fun x hx fn e=>?_,step_try,free_ok _ _,fun x hx=>?_⟩
  · simp only [List.mem_cons,List.not_mem_nil,or_false] at hx
    rcases hx with rfl | rfl | rfl
    · exact fine_try Tryz.func41 (by kernel_rfl) (by kernel_rfl) (by kernel_rfl)
    · exact fine_try Tryz.func42 (by kernel_rfl) (by kernel_rfl) (by kernel_rfl)
    · exact fine_try Tryz.func84 (by kernel_rfl) (by kernel_rfl) (by kernel_rfl)
  · simp only [List.mem_cons,List.not_mem_nil,or_false] at hx
    rcases hx with rfl | rfl | rfl
    · exact res_try Tryz.func41 (by kernel_rfl) e
    · exact res_try Tryz.func42 (by kernel_rfl) e
    · exact res_try Tryz.func84 (by kernel_rfl) e
  · simp only [List.mem_cons,List.not_mem_nil,or_false] at hx
    rcases hx with rfl | rfl | rfl <;> kernel_rfl
end Go.Proofs.YteaieagkjepgiaaGreatDoor
/- . -/
namespace Go.Proofs.YteaieagkjepgiaaGreatDoor
set_option maxRecDepth 100000
open Go.Conc
def lftC:Code->Code
  | .seq a _=>a
  | c=>c
def rgtC:Code->Code
  | .seq _ b=>b
  | c=>c
def inC:Code->Code
  | .block _ a=>a
  | .loop a=>a
  | c=>c
def opsC:Code->Array Oper
  | .region _ ops _=>ops
  | _=>#[]
noncomputable def scB:Code:=(Tryz.f67.body).getD .skip
noncomputable def scL:Code:=inC (inC (rgtC (lftC scB)))
noncomputable abbrev R0:Array Oper:=opsC (lftC (lftC scB))
noncomputable abbrev R1:Array Oper:=opsC (lftC (lftC scL))
noncomputable abbrev R3:Array Oper:=opsC (lftC (inC (lftC (rgtC scL))))
noncomputable abbrev R4:Array Oper:=opsC (rgtC (inC (lftC (rgtC scL))))
noncomputable abbrev R2:Array Oper:=opsC (rgtC (rgtC scL))
noncomputable abbrev R5:Array Oper:=opsC (rgtC scB)
theorem sc_is:scB = .seq (.seq (.region 0 R0 false) (.block 0 (.loop scL))) (.region 5 R5 false):=by kernel_rfl
theorem scL_is:scL = .seq (.seq (.region 1 R1 false) (.cond (.tmp 12) .skip (.exit 0))) (.seq (.block 1 (.seq (.region 3 R3 false) (.region 4 R4 false))) (.region 2 R2 false)):=by kernel_rfl
theorem of_map {ops:Array Oper} {i:Nat} {g:Option (Nat × Bool)} {d:Option Nat} {p:Op} (h:(ops[i]?).map (fun o=>(o.guard,o.dst,o.op))=some (g,d,p)):∃ o,ops[i]?=some o/\o.guard=g/\o.dst=d/\o.op=p:=by
  obtain ⟨o,e,q⟩:=Option.map_eq_some_iff.1 h
  simp only [Prod.mk.injEq] at q
  exact ⟨o,e,q.1,q.2.1,q.2.2⟩
theorem getD_set (tmps:Array Value) (d t:Nat) (v:Value):(tmps.setIfInBounds d v).getD t undef=if d=t/\d<tmps.size then v else tmps.getD t undef:=by
  by_cases e:d=t
  · subst e
    by_cases h:d<tmps.size
    · rw [getD_eq h,if_pos ⟨rfl,h⟩]
    · rw [if_neg (fun q=>h q.2)]
      simp [Array.getD_eq_getD_getElem?,Array.setIfInBounds,h]
  · rw [getD_ne (Ne.symm e),if_neg (fun q=>e q.1)]
theorem run_prog {α:Type} {P:Program} (k:Program->Sem α) (w:World) (es:Array Event):Sem.runT P (program >>= k) w es=Sem.runT P (k P) w es:=rfl
theorem run_callF {P:Program} {x:FuncId} {fn:Func} (k2:P.funcs[x]?=some fn) (k3:fn.body.isNone=false) (k4:(fn.name == "runtime.NumGoroutine")=false) (l:Array Value) (w:World) (es:Array Event):(callFunc x l).runT P w es=(.ok (.enter x l) w,es):=by
  unfold callFunc
  rw [run_prog]
  rw [k2]
  dsimp only
  rw [k4,if_neg (by simp),k3,if_neg (by simp)]
  rfl
theorem run_cell (a b u t:Int) (w:World) (es:Array Event):Sem.runT Tryz.prog (do let v <-Instr.build 76 #[(0,.int .i64 a),(1,.int .i64 b),(2,.int .i64 u),(3,.int .i64 t)];pure (Next.value v)) w es=(.ok (.value (cellV a b u t)) w,es):=by
  have h:FreeP Tryz.prog (NextP []) (do let v <-Instr.build 76 #[(0,.int .i64 a),(1,.int .i64 b),(2,.int .i64 u),(3,.int .i64 t)];pure (Next.value v)):=fv (f_build _ _)
  have hr:∀ w',Sem.run Tryz.prog (do let v <-Instr.build 76 #[(0,.int .i64 a),(1,.int .i64 b),(2,.int .i64 u),(3,.int .i64 t)];pure (Next.value v)) w' = .ok (.value (cellV a b u t)) w':=by
    intro w'
    simp [Instr.build,go_sem,cellV]
  rcases free_run _ h with ⟨x,_,e⟩ | ⟨x,_,e⟩
  · have:=run_of (e w es)
    rw [hr] at this
    cases this
    exact e w es
  · have:=run_of (e w es)
    rw [hr] at this
    cases this
noncomputable abbrev bot:Frame:={ (default:Frame) with fn:=Tryz.prog.funcs.size,defers:=[],mode:=.panicking [goexitEntry] }
section
variable {c:Nat} {vs:List Value} {tmps:Array Value} {k:List Item} {cs:List Frame}
theorem sg_regionL {fn:FuncId} {id:Nat} {ops:Array Oper} {l:List Nat} (hl:List.range ops.size=l) (h:Sg Tryz.prog c fn cs vs tmps (.inRegion ops l::k)):Sg Tryz.prog c fn cs vs tmps (.code (.region id ops false)::k):=sg_region (by rw [hl];exact h)
theorem sg_call33 {fn:FuncId} {ops:Array Oper} {i d:Nat} {r:List Nat} {o:Oper} {s f:Int} (ho:ops[i]?=some o) (hg:o.guard=none) (hd:o.dst=some d) (hop:o.op = .call { callee:=.value (.func 84),args:=#[.tmp 16,.tmp 17],argTypes:=#[3,3] }) (hx:tmps.getD 16 undef = .int .i64 s) (hy:tmps.getD 17 undef = .int .i64 f)
    (h:Sg Tryz.prog c fn cs vs (tmps.setIfInBounds d (.tuple #[.int .i64 ((placeX s f).1:Nat),.int .i64 ((placeX s f).2.1:Nat),.int .i64 ((placeX s f).2.2:Nat)])) (.inRegion ops r::k)):Sg Tryz.prog c fn cs vs tmps (.inRegion ops (i::r)::k):=by
  have hw:Region.wanted o (yielded ops tmps)=true:=by unfold Region.wanted;rw [hg]
  refine sg_go (g':=Gr (Frame.enter Tryz.prog 84 #[.int .i64 s,.int .i64 f] .normal) (fm3 fn tmps (.inRegion ops (i::r)::k)::cs)) rfl (fun w=>?_) ?_
  · rw [step_op (fr:=fm3 fn tmps (.inRegion ops (i::r)::k)) rfl rfl rfl ho hw]
    have hv':(execOp (fm3 fn tmps (.inRegion ops (i::r)::k)).eval o).runT Tryz.prog w #[]=(.ok (.enter 84 #[.int .i64 s,.int .i64 f]) w,#[]):=by
      unfold execOp
      rw [hop]
      have e1:(fm3 fn tmps (.inRegion ops (i::r)::k)).eval (.tmp 16) = .int .i64 s:=hx
      have e2:(fm3 fn tmps (.inRegion ops (i::r)::k)).eval (.tmp 17) = .int .i64 f:=hy
      show (callFunc 84 (#[]++#[Operand.tmp 16,.tmp 17].map (fm3 fn tmps (.inRegion ops (i::r)::k)).eval++#[])).runT Tryz.prog w #[]=_
      have e3:(#[]++#[Operand.tmp 16,.tmp 17].map (fm3 fn tmps (.inRegion ops (i::r)::k)).eval++#[])=#[.int .i64 s,.int .i64 f]:=by simp [e1,e2]
      rw [e3]
      exact run_callF Tryz.func84 (by kernel_rfl) (by kernel_rfl) _ _ _
    simp [-Sem.runT_eq,stepG.apply,hv',GStep.after,seen]
  · refine sender_call plainly (by simp) (fun y hy=>?_) (fun w=>(implPlaceOf s f w).mono (fun e w' q=>q.1)) ?_
    · rcases (by simpa using hy:y=_\/y=_) with rfl | rfl <;> exact .int _ _
    · have e:(fm3 fn tmps (.inRegion ops (i::r)::k)).finish (.tuple #[.int .i64 ((placeX s f).1:Nat),.int .i64 ((placeX s f).2.1:Nat),.int .i64 ((placeX s f).2.2:Nat)])=fm3 fn (tmps.setIfInBounds d (.tuple #[.int .i64 ((placeX s f).1:Nat),.int .i64 ((placeX s f).2.1:Nat),.int .i64 ((placeX s f).2.2:Nat)])) (.inRegion ops r::k):=by
        simp [Frame.finish,ho,hd]
      rw [e]
      exact h
theorem sg_cell {fn:FuncId} {ops:Array Oper} {i d:Nat} {r:List Nat} {o:Oper} {a b u t:Int} (ho:ops[i]?=some o) (hg:o.guard=none) (hd:o.dst=some d) (hop:o.op = .build 76 #[(0,.tmp 23),(1,.tmp 27),(2,.tmp 28),(3,.tmp 29)]) (h1:tmps.getD 23 undef = .int .i64 a) (h2:tmps.getD 27 undef = .int .i64 b) (h3:tmps.getD 28 undef = .int .i64 u) (h4:tmps.getD 29 undef = .int .i64 t)
    (h:Sg Tryz.prog c fn cs vs (tmps.setIfInBounds d (cellV a b u t)) (.inRegion ops r::k)):Sg Tryz.prog c fn cs vs tmps (.inRegion ops (i::r)::k):=by
  refine sg_op ho hg hd (fun w es=>?_) h
  unfold execOp
  rw [hop]
  dsimp only
  have e:(#[((0:Nat),Operand.tmp 23),(1,.tmp 27),(2,.tmp 28),(3,.tmp 29)].map fun (x:Nat × Operand)=>(x.1,(fm3 fn tmps []).eval x.2))=#[(0,.int .i64 a),(1,.int .i64 b),(2,.int .i64 u),(3,.int .i64 t)]:=by
    simp [ev_tmp h1,ev_tmp h2,ev_tmp h3,ev_tmp h4]
  rw [e]
  exact run_cell a b u t w es
theorem sg_close {fn:FuncId} {ops:Array Oper} {i d:Nat} {o:Oper} {ts:Array TypeId} {n:Nat} (ho:ops[i]?=some o) (hg:o.guard=none) (hd:o.dst=none) (hop:o.op = .call { callee:=.builtin .close,args:=#[.tmp d],argTypes:=ts }) (hx:tmps.getD d undef = .chan (some c)) (hnr:(Tryz.prog.funcs[fn]?).any (·.norace)=false) (hq:QuitsD Tryz.prog n 0 (Gr (fm3 fn tmps (.inRegion ops []::k)) cs)):Sg Tryz.prog c fn cs [] tmps (.inRegion ops [i]::k):=by
  have hw:Region.wanted o (yielded ops tmps)=true:=by unfold Region.wanted;rw [hg]
  refine .close (b':=Gr (fm3 fn tmps (.inRegion ops []::k)) cs) (n:=n) rfl ?_ (fun w cap s r hc=>?_) hq
  · simp [mayWake,ho,hop]
  · rw [step_op (fr:=fm3 fn tmps (.inRegion ops [i]::k)) rfl rfl rfl ho hw]
    have hv':(execOp (fm3 fn tmps (.inRegion ops [i]::k)).eval o).runT Tryz.prog w #[]=(.ok (.value (.tuple #[])) (w.setChan c cap #[] true s r false),closeEvents c):=by
      unfold execOp
      rw [hop]
      have e1:(fm3 fn tmps (.inRegion ops [i]::k)).eval (.tmp d) = .chan (some c):=hx
      show Sem.runT Tryz.prog (do let v <-Builtin.close_ ts o.type (#[Operand.tmp d].map (fm3 fn tmps (.inRegion ops [i]::k)).eval);pure (Next.value v)) w #[]=_
      have e3:(#[Operand.tmp d].map (fm3 fn tmps (.inRegion ops [i]::k)).eval)=#[.chan (some c)]:=by simp [e1]
      rw [e3]
      have e4:Builtin.close_ ts o.type #[.chan (some c)]=(do
          let .chan room buf closed sent received timer <-getObj c | stuck "close: no channel in this block"
          if closed then runtimePanic (.plain "close of closed channel")
          setObj c (.chan room buf true sent received timer)
          pure (.tuple #[])):=rfl
      rw [e4]
      simp [-Sem.runT_eq,getObj,setObj,bind,Sem.bind,pure,Sem.runT,hc,closeEvents,World.setChan,Obj.isChan]
    have hseen:seen Tryz.prog fn (closeEvents c)=closeEvents c:=by
      simp [seen,closeEvents,hnr]
    simp [-Sem.runT_eq,stepG.apply,hv',GStep.after,Frame.finish,ho,hd,hseen]
theorem quits5 (tmps:Array Value):QuitsD Tryz.prog 4 0 (Gr (fm3 67 tmps [.inRegion R5 []]) [bot]):=by
  refine .inr ⟨rfl,Gr (fm3 67 tmps []) [bot],#[],by simp,fun w=>rfl,.inr ⟨rfl,Gr { fm3 67 tmps [] with mode:=.returning } [bot],#[],by simp,fun w=>rfl,.inr ⟨rfl,Gr bot [],#[],by simp,fun w=>?_,.inr ⟨rfl,{ Gr bot [] with status:=.finished },#[],by simp,fun w=>?_,⟨rfl,rfl⟩⟩⟩⟩⟩
  · have hf:=Tryz.func67
    have hr:=Tryz.results67
    simp [stepG,unwind,hf,results,hr,doReturn,seen,GStep.after]
    rfl
  · simp [stepG,unwind,Frame.catches]
    rfl
theorem send_end (tmps:Array Value) (h2:tmps.getD 2 undef = .chan (some c)) (hsz:tmps.size=32):Sg Tryz.prog c 67 [bot] [] tmps [.code (.region 5 R5 false)]:=by
  refine sg_regionL (l:=[0,1]) (by kernel_rfl) ?_
  have t2:=h2
  clear h2
  obtain ⟨o,h1,h2,h3,h4⟩:=of_map (show (R5[0]?).map _=some (none,some 31,.move (.tmp 2)) by kernel_rfl)
  refine sg_move (v:=(.chan (some c))) h1 h2 h3 (.inl h4) (by simp [-Array.getD_eq_getD_getElem?,getD_set, *]) ?_
  clear h1 h2 h3 h4
  obtain ⟨o,h1,h2',h3,h4⟩:=of_map (show (R5[1]?).map _=some (none,none,.call { callee:=.builtin .close,args:=#[.tmp 31],argTypes:=#[109] }) by kernel_rfl)
  exact sg_close h1 h2' h3 h4 (by simp [-Array.getD_eq_getD_getElem?,getD_set, *]) (by rw [Tryz.func67];kernel_rfl) (quits5 _)
theorem send_loop (s:Int) (n:Nat) (hn:n<=32):∀ (fuel i:Nat) (tmps:Array Value),n<=i+4*fuel->i<=36->tmps.size=32->tmps.getD 0 undef = .int .i64 s->tmps.getD 1 undef = .int .i64 n->tmps.getD 2 undef = .chan (some c)->tmps.getD 6 undef = .int .i64 i ->
    Sg Tryz.prog c 67 [bot] (cellsF s n fuel i) tmps [.code scL,.inLoop scL,.inBlock 0,.code (.region 5 R5 false)]:=by
  intro fuel
  induction fuel with
  | zero =>
    intro i tmps hf hi hsz t0 t1 t2 t6
    have hlt:¬ (i:Int)<(n:Int):=by omega
    rw [scL_is]
    refine sg_seq (sg_seq (sg_regionL (l:=[0,1,2]) (by kernel_rfl) ?_))
    obtain ⟨o,h1,h2,h3,h4⟩:=of_map (show (R1[0]?).map _=some (none,some 10,.move (.tmp 6)) by kernel_rfl)
    refine sg_move (v:=(.int .i64 ((i:Nat):Int))) h1 h2 h3 (.inl h4) (by simp [-Array.getD_eq_getD_getElem?,getD_set, *]) ?_
    clear h1 h2 h3 h4
    obtain ⟨o,h1,h2,h3,h4⟩:=of_map (show (R1[1]?).map _=some (none,some 11,.move (.tmp 1)) by kernel_rfl)
    refine sg_move (v:=(.int .i64 ((n:Nat):Int))) h1 h2 h3 (.inl h4) (by simp [-Array.getD_eq_getD_getElem?,getD_set, *]) ?_
    clear h1 h2 h3 h4
    obtain ⟨o,h1,h2,h3,h4⟩:=of_map (show (R1[2]?).map _=some (none,some 12,.binOp .lss 3 (.tmp 10) (.tmp 11) 3) by kernel_rfl)
    refine sg_bin (a:=((i:Nat):Int)) (b:=((n:Nat):Int)) h1 h2 h3 h4 (ev_tmp (by simp [-Array.getD_eq_getD_getElem?,getD_set, *])) (ev_tmp (by simp [-Array.getD_eq_getD_getElem?,getD_set, *])) (.inr ⟨rfl,rfl⟩) ?_
    clear h1 h2 h3 h4
    refine sg_done (sg_cond (v:=false) (ev_tmp (by simp [-Array.getD_eq_getD_getElem?,getD_set, *])) ?_)
    refine sg_exit (k':=[.code (.region 5 R5 false)]) rfl ?_
    exact send_end _ (by simp [-Array.getD_eq_getD_getElem?,getD_set, *]) (by simp [*])
  | succ fuel ih =>
    intro i tmps hf hi hsz t0 t1 t2 t6
    by_cases hlt:i<n
    · have hw:IntKind.i64.wrap (((i:Nat):Int)+4)=((i+4:Nat):Int):=by rw [IntWalk.i64_in _ ⟨by omega,by omega⟩];omega
      have hm:(if ((n:Nat):Int)<((i+4:Nat):Int) then ((n:Nat):Int) else ((i+4:Nat):Int))=((min (i+4) n:Nat):Int):=by split <;> omega
      have hlt':((i:Nat):Int)<((n:Nat):Int):=by omega
      rw [show cellsF s n (fuel+1) i=cellV (i:Nat) (min (i+4) n:Nat) ((placeX s (i:Nat)).2.1:Nat) ((placeX s (i:Nat)).2.2:Nat)::cellsF s n fuel (i+4) by rw [cellsF,if_pos hlt]]
      have ih':=fun tmps=>ih (i+4) tmps (by omega) (by omega)
      clear ih
      rw [scL_is]
      refine sg_seq (sg_seq (sg_regionL (l:=[0,1,2]) (by kernel_rfl) ?_))
      obtain ⟨o,h1,h2,h3,h4⟩:=of_map (show (R1[0]?).map _=some (none,some 10,.move (.tmp 6)) by kernel_rfl)
      refine sg_move (v:=(.int .i64 ((i:Nat):Int))) h1 h2 h3 (.inl h4) (by simp [-Array.getD_eq_getD_getElem?,getD_set, *]) ?_
      clear h1 h2 h3 h4
      obtain ⟨o,h1,h2,h3,h4⟩:=of_map (show (R1[1]?).map _=some (none,some 11,.move (.tmp 1)) by kernel_rfl)
      refine sg_move (v:=(.int .i64 ((n:Nat):Int))) h1 h2 h3 (.inl h4) (by simp [-Array.getD_eq_getD_getElem?,getD_set, *]) ?_
      clear h1 h2 h3 h4
      obtain ⟨o,h1,h2,h3,h4⟩:=of_map (show (R1[2]?).map _=some (none,some 12,.binOp .lss 3 (.tmp 10) (.tmp 11) 3) by kernel_rfl)
      refine sg_bin (a:=((i:Nat):Int)) (b:=((n:Nat):Int)) h1 h2 h3 h4 (ev_tmp (by simp [-Array.getD_eq_getD_getElem?,getD_set, *])) (ev_tmp (by simp [-Array.getD_eq_getD_getElem?,getD_set, *])) (.inr ⟨rfl,rfl⟩) ?_
      clear h1 h2 h3 h4
      refine sg_done (sg_cond (v:=true) (ev_tmp (by simp [-Array.getD_eq_getD_getElem?,getD_set, *])) ?_)
      refine sg_skip (sg_seq (sg_block (sg_seq (sg_regionL (l:=[0,1,2,3,4,5,6,7,8,9]) (by kernel_rfl) ?_))))
      obtain ⟨o,h1,h2,h3,h4⟩:=of_map (show (R3[0]?).map _=some (none,some 16,.move (.tmp 0)) by kernel_rfl)
      refine sg_move (v:=(.int .i64 s)) h1 h2 h3 (.inl h4) (by simp [-Array.getD_eq_getD_getElem?,getD_set, *]) ?_
      clear h1 h2 h3 h4
      obtain ⟨o,h1,h2,h3,h4⟩:=of_map (show (R3[1]?).map _=some (none,some 17,.move (.tmp 6)) by kernel_rfl)
      refine sg_move (v:=(.int .i64 ((i:Nat):Int))) h1 h2 h3 (.inl h4) (by simp [-Array.getD_eq_getD_getElem?,getD_set, *]) ?_
      clear h1 h2 h3 h4
      obtain ⟨o,h1,h2,h3,h4⟩:=of_map (show (R3[2]?).map _=some (none,some 18,.call { callee:=.value (.func 84),args:=#[.tmp 16,.tmp 17],argTypes:=#[3,3] }) by kernel_rfl)
      refine sg_call33 (s:=s) (f:=((i:Nat):Int)) h1 h2 h3 h4 (by simp [-Array.getD_eq_getD_getElem?,getD_set, *]) (by simp [-Array.getD_eq_getD_getElem?,getD_set, *]) ?_
      clear h1 h2 h3 h4
      obtain ⟨o,h1,h2,h3,h4⟩:=of_map (show (R3[3]?).map _=some (none,some 15,.move (.tmp 18)) by kernel_rfl)
      refine sg_move (v:=(.tuple #[(.int .i64 ((placeX s (i:Nat)).1:Nat)),(.int .i64 ((placeX s (i:Nat)).2.1:Nat)),(.int .i64 ((placeX s (i:Nat)).2.2:Nat))])) h1 h2 h3 (.inl h4) (by simp [-Array.getD_eq_getD_getElem?,getD_set, *]) ?_
      clear h1 h2 h3 h4
      obtain ⟨o,h1,h2,h3,h4⟩:=of_map (show (R3[4]?).map _=some (none,some 19,.extract (.tmp 15) 0) by kernel_rfl)
      refine sg_extract (us:=#[(.int .i64 ((placeX s (i:Nat)).1:Nat)),(.int .i64 ((placeX s (i:Nat)).2.1:Nat)),(.int .i64 ((placeX s (i:Nat)).2.2:Nat))]) (v:=(.int .i64 ((placeX s (i:Nat)).1:Nat))) h1 h2 h3 h4 (by simp [-Array.getD_eq_getD_getElem?,getD_set, *]) rfl ?_
      clear h1 h2 h3 h4
      obtain ⟨o,h1,h2,h3,h4⟩:=of_map (show (R3[5]?).map _=some (none,some 20,.extract (.tmp 15) 1) by kernel_rfl)
      refine sg_extract (us:=#[(.int .i64 ((placeX s (i:Nat)).1:Nat)),(.int .i64 ((placeX s (i:Nat)).2.1:Nat)),(.int .i64 ((placeX s (i:Nat)).2.2:Nat))]) (v:=(.int .i64 ((placeX s (i:Nat)).2.1:Nat))) h1 h2 h3 h4 (by simp [-Array.getD_eq_getD_getElem?,getD_set, *]) rfl ?_
      clear h1 h2 h3 h4
      obtain ⟨o,h1,h2,h3,h4⟩:=of_map (show (R3[6]?).map _=some (none,some 21,.extract (.tmp 15) 2) by kernel_rfl)
      refine sg_extract (us:=#[(.int .i64 ((placeX s (i:Nat)).1:Nat)),(.int .i64 ((placeX s (i:Nat)).2.1:Nat)),(.int .i64 ((placeX s (i:Nat)).2.2:Nat))]) (v:=(.int .i64 ((placeX s (i:Nat)).2.2:Nat))) h1 h2 h3 h4 (by simp [-Array.getD_eq_getD_getElem?,getD_set, *]) rfl ?_
      clear h1 h2 h3 h4
      obtain ⟨o,h1,h2,h3,h4⟩:=of_map (show (R3[7]?).map _=some (none,some 7,.assign (.tmp 19)) by kernel_rfl)
      refine sg_move (v:=(.int .i64 ((placeX s (i:Nat)).1:Nat))) h1 h2 h3 (.inr h4) (by simp [-Array.getD_eq_getD_getElem?,getD_set, *]) ?_
      clear h1 h2 h3 h4
      obtain ⟨o,h1,h2,h3,h4⟩:=of_map (show (R3[8]?).map _=some (none,some 8,.assign (.tmp 20)) by kernel_rfl)
      refine sg_move (v:=(.int .i64 ((placeX s (i:Nat)).2.1:Nat))) h1 h2 h3 (.inr h4) (by simp [-Array.getD_eq_getD_getElem?,getD_set, *]) ?_
      clear h1 h2 h3 h4
      obtain ⟨o,h1,h2,h3,h4⟩:=of_map (show (R3[9]?).map _=some (none,some 9,.assign (.tmp 21)) by kernel_rfl)
      refine sg_move (v:=(.int .i64 ((placeX s (i:Nat)).2.2:Nat))) h1 h2 h3 (.inr h4) (by simp [-Array.getD_eq_getD_getElem?,getD_set, *]) ?_
      clear h1 h2 h3 h4
      refine sg_done (sg_regionL (l:=[0,1,2,3,4,5,6,7,8,9]) (by kernel_rfl) ?_)
      obtain ⟨o,h1,h2,h3,h4⟩:=of_map (show (R4[0]?).map _=some (none,some 22,.move (.tmp 2)) by kernel_rfl)
      refine sg_move (v:=(.chan (some c))) h1 h2 h3 (.inl h4) (by simp [-Array.getD_eq_getD_getElem?,getD_set, *]) ?_
      clear h1 h2 h3 h4
      obtain ⟨o,h1,h2,h3,h4⟩:=of_map (show (R4[1]?).map _=some (none,some 23,.move (.tmp 6)) by kernel_rfl)
      refine sg_move (v:=(.int .i64 ((i:Nat):Int))) h1 h2 h3 (.inl h4) (by simp [-Array.getD_eq_getD_getElem?,getD_set, *]) ?_
      clear h1 h2 h3 h4
      obtain ⟨o,h1,h2,h3,h4⟩:=of_map (show (R4[2]?).map _=some (none,some 24,.move (.tmp 6)) by kernel_rfl)
      refine sg_move (v:=(.int .i64 ((i:Nat):Int))) h1 h2 h3 (.inl h4) (by simp [-Array.getD_eq_getD_getElem?,getD_set, *]) ?_
      clear h1 h2 h3 h4
      obtain ⟨o,h1,h2,h3,h4⟩:=of_map (show (R4[3]?).map _=some (none,some 25,.binOp .add 3 (.tmp 24) (.const (.int .i64 4)) 3) by kernel_rfl)
      refine sg_bin (a:=((i:Nat):Int)) (b:=4) h1 h2 h3 h4 (ev_tmp (by simp [-Array.getD_eq_getD_getElem?,getD_set, *])) rfl (.inl ⟨rfl,rfl⟩) ?_
      rw [hw]
      clear h1 h2 h3 h4
      obtain ⟨o,h1,h2,h3,h4⟩:=of_map (show (R4[4]?).map _=some (none,some 26,.move (.tmp 1)) by kernel_rfl)
      refine sg_move (v:=(.int .i64 ((n:Nat):Int))) h1 h2 h3 (.inl h4) (by simp [-Array.getD_eq_getD_getElem?,getD_set, *]) ?_
      clear h1 h2 h3 h4
      obtain ⟨o,h1,h2,h3,h4⟩:=of_map (show (R4[5]?).map _=some (none,some 27,.call { callee:=.builtin .min,args:=#[.tmp 25,.tmp 26],argTypes:=#[3,3] }) by kernel_rfl)
      refine sg_min (a:=((i+4:Nat):Int)) (b:=((n:Nat):Int)) h1 h2 h3 h4 (ev_tmp (by simp [-Array.getD_eq_getD_getElem?,getD_set, *])) (ev_tmp (by simp [-Array.getD_eq_getD_getElem?,getD_set, *])) ?_
      rw [hm]
      clear h1 h2 h3 h4
      obtain ⟨o,h1,h2,h3,h4⟩:=of_map (show (R4[6]?).map _=some (none,some 28,.move (.tmp 8)) by kernel_rfl)
      refine sg_move (v:=(.int .i64 ((placeX s (i:Nat)).2.1:Nat))) h1 h2 h3 (.inl h4) (by simp [-Array.getD_eq_getD_getElem?,getD_set, *]) ?_
      clear h1 h2 h3 h4
      obtain ⟨o,h1,h2,h3,h4⟩:=of_map (show (R4[7]?).map _=some (none,some 29,.move (.tmp 9)) by kernel_rfl)
      refine sg_move (v:=(.int .i64 ((placeX s (i:Nat)).2.2:Nat))) h1 h2 h3 (.inl h4) (by simp [-Array.getD_eq_getD_getElem?,getD_set, *]) ?_
      clear h1 h2 h3 h4
      obtain ⟨o,h1,h2,h3,h4⟩:=of_map (show (R4[8]?).map _=some (none,some 30,.build 76 #[(0,.tmp 23),(1,.tmp 27),(2,.tmp 28),(3,.tmp 29)]) by kernel_rfl)
      refine sg_cell (a:=((i:Nat):Int)) (b:=((min (i+4) n:Nat):Int)) (u:=((placeX s (i:Nat)).2.1:Nat)) (t:=((placeX s (i:Nat)).2.2:Nat)) h1 h2 h3 h4 (by simp [-Array.getD_eq_getD_getElem?,getD_set, *]) (by simp [-Array.getD_eq_getD_getElem?,getD_set, *]) (by simp [-Array.getD_eq_getD_getElem?,getD_set, *]) (by simp [-Array.getD_eq_getD_getElem?,getD_set, *]) ?_
      clear h1 h2 h3 h4
      obtain ⟨o,h1,h2,h3,h4⟩:=of_map (show (R4[9]?).map _=some (none,none,.send (.tmp 22) (.tmp 30)) by kernel_rfl)
      refine sg_send (v:=(cellV (i:Nat) (min (i+4) n:Nat) ((placeX s (i:Nat)).2.1:Nat) ((placeX s (i:Nat)).2.2:Nat))) h1 h2 h3 h4 (ev_tmp (by simp [-Array.getD_eq_getD_getElem?,getD_set, *])) (ev_tmp (by simp [-Array.getD_eq_getD_getElem?,getD_set, *])) ?_
      clear h1 h2 h3 h4
      refine sg_done (sg_inBlock (sg_regionL (l:=[0,1,2]) (by kernel_rfl) ?_))
      obtain ⟨o,h1,h2,h3,h4⟩:=of_map (show (R2[0]?).map _=some (none,some 13,.move (.tmp 6)) by kernel_rfl)
      refine sg_move (v:=(.int .i64 ((i:Nat):Int))) h1 h2 h3 (.inl h4) (by simp [-Array.getD_eq_getD_getElem?,getD_set, *]) ?_
      clear h1 h2 h3 h4
      obtain ⟨o,h1,h2,h3,h4⟩:=of_map (show (R2[1]?).map _=some (none,some 14,.binOp .add 3 (.tmp 13) (.const (.int .i64 4)) 3) by kernel_rfl)
      refine sg_bin (a:=((i:Nat):Int)) (b:=4) h1 h2 h3 h4 (ev_tmp (by simp [-Array.getD_eq_getD_getElem?,getD_set, *])) rfl (.inl ⟨rfl,rfl⟩) ?_
      rw [hw]
      clear h1 h2 h3 h4
      obtain ⟨o,h1,h2,h3,h4⟩:=of_map (show (R2[2]?).map _=some (none,some 6,.assign (.tmp 14)) by kernel_rfl)
      refine sg_move (v:=(.int .i64 ((i+4:Nat):Int))) h1 h2 h3 (.inr h4) (by simp [-Array.getD_eq_getD_getElem?,getD_set, *]) ?_
      clear h1 h2 h3 h4
      refine sg_done (sg_inLoop ?_)
      rw [<-scL_is]
      refine ih' _ (by simp [*]) ?_ ?_ ?_ ?_
      all_goals simp [-Array.getD_eq_getD_getElem?,getD_set, *]
    · have hlt':¬ ((i:Nat):Int)<((n:Nat):Int):=by omega
      rw [show cellsF s n (fuel+1) i=[] by rw [cellsF,if_neg hlt]]
      rw [scL_is]
      refine sg_seq (sg_seq (sg_regionL (l:=[0,1,2]) (by kernel_rfl) ?_))
      obtain ⟨o,h1,h2,h3,h4⟩:=of_map (show (R1[0]?).map _=some (none,some 10,.move (.tmp 6)) by kernel_rfl)
      refine sg_move (v:=(.int .i64 ((i:Nat):Int))) h1 h2 h3 (.inl h4) (by simp [-Array.getD_eq_getD_getElem?,getD_set, *]) ?_
      clear h1 h2 h3 h4
      obtain ⟨o,h1,h2,h3,h4⟩:=of_map (show (R1[1]?).map _=some (none,some 11,.move (.tmp 1)) by kernel_rfl)
      refine sg_move (v:=(.int .i64 ((n:Nat):Int))) h1 h2 h3 (.inl h4) (by simp [-Array.getD_eq_getD_getElem?,getD_set, *]) ?_
      clear h1 h2 h3 h4
      obtain ⟨o,h1,h2,h3,h4⟩:=of_map (show (R1[2]?).map _=some (none,some 12,.binOp .lss 3 (.tmp 10) (.tmp 11) 3) by kernel_rfl)
      refine sg_bin (a:=((i:Nat):Int)) (b:=((n:Nat):Int)) h1 h2 h3 h4 (ev_tmp (by simp [-Array.getD_eq_getD_getElem?,getD_set, *])) (ev_tmp (by simp [-Array.getD_eq_getD_getElem?,getD_set, *])) (.inr ⟨rfl,rfl⟩) ?_
      clear h1 h2 h3 h4
      refine sg_done (sg_cond (v:=false) (ev_tmp (by simp [-Array.getD_eq_getD_getElem?,getD_set, *])) ?_)
      refine sg_exit (k':=[.code (.region 5 R5 false)]) rfl ?_
      exact send_end _ (by simp [-Array.getD_eq_getD_getElem?,getD_set, *]) (by simp [*])
end
end Go.Proofs.YteaieagkjepgiaaGreatDoor
/- . -/
namespace Go.Proofs.YteaieagkjepgiaaGreatDoor
set_option maxRecDepth 100000
open Go.Conc
abbrev sendD (s:Int) (n c:Nat):Deferred:={ target:=.fn (.func 67) #[],args:=#[.int .i64 s,.int .i64 (n:Int),.chan (some c)] }
theorem born_step (s:Int) (n c:Nat) (w:World):stepG Tryz.prog false (born Tryz.prog (sendD s n c)) w = .go (Gr (Frame.enter Tryz.prog 67 #[.int .i64 s,.int .i64 (n:Int),.chan (some c)] .deferred) [bot]) w #[]:=by
  have h:=run_callF Tryz.func67 (by kernel_rfl) (by kernel_rfl) #[.int .i64 s,.int .i64 (n:Int),.chan (some c)] w #[]
  have h2:=run_of h
  simp [stepG,born,unwind,callDeferred,invoke,h,h2,-Sem.runT_eq,GStep.after,seen]
theorem enter31 (s:Int) (n c:Nat):Frame.enter Tryz.prog 67 #[.int .i64 s,.int .i64 (n:Int),.chan (some c)] .deferred=fm3 67 (#[.int .i64 s,.int .i64 (n:Int),.chan (some c)]++Array.replicate 29 undef) [.code scB]:=by
  have h:=Tryz.func67
  have h1:=Tryz.ntmps67
  have hb:Tryz.f67.body=some scB:=by kernel_rfl
  simp [Frame.enter,h,h1,hb]
theorem born_sender (s:Int) (n c:Nat) (hn:n<=32):Sender Tryz.prog c (cellsF s n 9 0) (born Tryz.prog (sendD s n c)):=by
  refine sg_go rfl (born_step s n c) ?_
  rw [enter31,sc_is]
  refine sg_seq (sg_seq (sg_regionL (l:=[0]) (by kernel_rfl) ?_))
  obtain ⟨o,h1,h2,h3,h4⟩:=of_map (show (R0[0]?).map _=some (none,some 6,.assign (.const (.int .i64 0))) by kernel_rfl)
  refine sg_const h1 h2 h3 h4 ?_
  refine sg_done (sg_block (sg_loop ?_))
  refine send_loop s n hn 9 0 _ (by omega) (by omega) (by simp) ?_ ?_ ?_ ?_
  all_goals (rw [getD_set];simp)
end Go.Proofs.YteaieagkjepgiaaGreatDoor
/- . -/
namespace Go.Proofs.YteaieagkjepgiaaGreatDoor
set_option maxRecDepth 100000
open Go.Conc
open Go.ConcN (sumTo upd sumTo_upd upd_ne upd_same)
def IdW (P:Program) (Post:Value->World->Prop) (a:Goroutine) (w:World):Prop:=
  ∀ (gs:Array Goroutine) (sl:Option (Nat × Nat)) (t:Trace) (q:Nat->Nat) (B d:Nat),gs[0]?=some a->Leavers P t gs q->Pi B t->Win P Post gs (w.at d) sl t
structure Pk (P:Program) (Post:Value->World->Prop) (c:Nat) (vs:List Value) (w:World) (a:Goroutine):Prop where
  kid:∀ j d,Kid P Post c j a vs (w.at d)
  shut:vs=[]->∀ (j m d:Nat) (gs:Array Goroutine) (sl:Option (Nat × Nat)) (t:Trace) (q:Nat->Nat) (B:Nat),gs[0]?=some a->Leavers P t gs q->Pc c m j B t->c<B->Win P Post gs ((w.at d).setChan c 0 #[] true 0 0 false) sl t
section
variable {P:Program} {Post:Value->World->Prop} {a a':Goroutine} {w w':World} {c:Nat} {vs:List Value}
theorem id_go (ha:a.status = .running) (hs:∀ d,∃ es,stepG P true a (w.at d) = .go a' (w'.at d) es/\Quietly es) (h:IdW P Post a' w'):IdW P Post a w:=by
  intro gs sl t q B d h0 hL hP
  obtain ⟨N,gs',a'',d',w'',es,sl',t',q',B',e,hr,hsz,h0',hL',hP'⟩:=idle1 (P:=P) keeps_pi (sl:=sl) (w:=w.at d) h0 ha hL hP (fun d'=>by
    obtain ⟨es,e,hq⟩:=hs d'
    exact ⟨_,_,es,e,hq⟩)
  obtain ⟨es',e',_⟩:=hs d'
  have e2:stepG P true a (w.at d') = .go a'' w'' es:=e
  rw [e'] at e2
  injection e2 with q1 q2 q3
  subst q1 q2
  exact Win.of hr (h gs' sl' t' q' B' d' h0' hL' hP')
theorem pk_go (ha:a.status = .running) (hs:∀ v,stepG P true a v = .go a' v #[]) (ho:Open c 0 0 w) (h:Pk P Post c vs w a'):Pk P Post c vs w a:=by
  have sh:vs=[]->∀ (j m d:Nat) (gs:Array Goroutine) (sl:Option (Nat × Nat)) (t:Trace) (q:Nat->Nat) (B:Nat),gs[0]?=some a->Leavers P t gs q->Pc c m j B t->c<B->Win P Post gs ((w.at d).setChan c 0 #[] true 0 0 false) sl t:=by
    intro hv j m d gs sl t q B h0 hL hP hB
    obtain ⟨N,gs',a'',d',w'',es,sl',t',q',B',e,hr,hsz,h0',hL',hP'⟩:=idle1 (P:=P) (Φ:=fun B t=>Pc c m j B t/\c<B) ⟨fun h hi hm=>⟨(keeps_pc c m j).mute h.1 hi hm,h.2⟩,fun h hB hq hl=>⟨(keeps_pc c m j).own h.1 hB hq hl,Nat.lt_of_lt_of_le h.2 hB⟩⟩ (sl:=sl) (w:=(w.at d).setChan c 0 #[] true 0 0 false) h0 ha hL ⟨hP,hB⟩ (fun d'=>⟨_,_,#[],hs _,Quietly.nil⟩)
    rw [hs] at e
    injection e with q1 q2 q3
    subst q1 q2
    exact Win.of hr (h.shut hv j m d' gs' sl' t' q' B' h0' hL' hP'.1 hP'.2)
  refine ⟨fun j d=>?_,sh⟩
  refine place_kid (Wk:=fun v=>∃ d,v=w.at d) ha (fun v d' ⟨d,e⟩=>⟨d',by rw [e];rfl⟩) (.inl (fun v s r ⟨d,e⟩ hov=>⟨a',v,#[],hs v,Quietly.nil,hov,by rw [e];exact h.kid j d⟩)) (fun hv v s r ⟨d,e⟩ hov=>?_) ⟨d,rfl⟩ (show Open c 0 0 (w.at d) from ho)
  have hsr:s=0/\r=0:=by
    rw [e] at hov
    have:(w.at d).heap[c]?=some (.chan 0 #[] false 0 0 false):=ho
    rw [show (w.at d).heap[c]?=_ from hov] at this
    simp only [Option.some.injEq,Obj.chan.injEq] at this
    exact ⟨this.2.2.2.1,this.2.2.2.2.1⟩
  obtain ⟨rfl,rfl⟩:=hsr
  intro gs t q B n sl b' fn pos hA h0 hj hq
  obtain ⟨hL,hP⟩:=shut_leavers hA hj hq fn pos
  rw [e]
  exact sh hv j t.size d gs sl _ _ B h0 hL hP hA.cB
theorem id_spawn {child:Goroutine} (ha:a.status = .running) (hs:∀ d,stepG P true a (w.at d) = .spawn a' child (w.at d) #[]) (hc:Sender P c vs child) (h:Pk P Post c vs w a'):IdW P Post a w:=by
  intro gs sl t q B d h0 hL hP
  obtain ⟨N,gs1,d1,d2,s1,s2,t1,q1,hr,hs1,h1,hL1,hP1,hst⟩:=turn0 (P:=P) (B:=B) keeps_pi _ gs a (w.at d) sl t q (Nat.le_refl _) h0 ha hL hP
  have hrun:=runT_crowd_spawn (P:=P) (sl:=s2) (i:=0) (w:=(w.at d).at d2) h1 (show stepG P (0==0) a ((w.at d).at d2)=_ from hs d2)
  refine Win.of hr (Win.step (hst.trans hrun) ?_)
  have hlt:0<gs1.size:=(Array.getElem?_eq_some_iff.1 h1).1
  have hops:((MemOp.ofEvents 0 a.frame.fn a.frame.place #[]).push { g:=0,fn:=a.frame.fn,pos:=a.frame.place,act:=.go gs1.size } |>.push { g:=gs1.size,fn:=child.frame.fn,pos:=a.frame.place,act:=.start })=([{ g:=0,fn:=a.frame.fn,pos:=a.frame.place,act:=.go gs1.size },{ g:=gs1.size,fn:=child.frame.fn,pos:=a.frame.place,act:=.start }]:List MemOp).toArray:=by
    simp [MemOp.ofEvents]
  rw [hops]
  have hB':Pi (max B (c+1)) t1:=⟨hP1.1.mono (Nat.le_max_left _ _),hP1.2⟩
  have hmild:∀ op ∈ ([{ g:=0,fn:=a.frame.fn,pos:=a.frame.place,act:=.go gs1.size },{ g:=gs1.size,fn:=child.frame.fn,pos:=a.frame.place,act:=.start }]:List MemOp),Mild2 (max B (c+1)) op:=by
    intro op hop
    simp only [List.mem_cons,List.not_mem_nil,or_false] at hop
    rcases hop with rfl | rfl <;> exact ⟨rfl,by simp,by simp,trivial⟩
  refine h.kid gs1.size d2 ((gs1.setIfInBounds 0 a').push child) _ q1 (max B (c+1)) s2 child ⟨fun i x hi hij hx=>?_,fun i hi=>?_,?_,hlt,pi_mild _ hB' hmild,by omega⟩ ?_ ?_ (.inl hc)
  · have hi':i<gs1.size:=by
      have:=(Array.getElem?_eq_some_iff.1 hx).1
      simp at this
      omega
    rw [Array.getElem?_push,if_neg (by simp;omega),Array.getElem?_setIfInBounds_ne (by omega)] at hx
    rw [deaf_mild i _ hmild]
    exact hL1.old i x hi hx
  · rw [deaf_mild i _ hmild]
    exact hL1.above i (by simp at hi;omega)
  · rw [deaf_mild _ _ hmild]
    exact hL1.above _ (Nat.le_refl _)
  · rw [Array.getElem?_push,if_neg (by simp;omega),Array.getElem?_setIfInBounds_self_of_lt hlt]
  · rw [Array.getElem?_push,if_pos (by simp)]
end
end Go.Proofs.YteaieagkjepgiaaGreatDoor
