/- Texts of ours, laid one behind the other: SgB, SgC, SgD, SgE. -/
import Derived.Test.YteaieagkjepgiaaGreatDoorPfM7
set_option linter.unusedVariables false
set_option linter.unusedSimpArgs false
/- . -/
namespace Go.Proofs.YteaieagkjepgiaaGreatDoor
set_option maxRecDepth 100000
open Go.Conc
def okX:Operand->Bool
  | .tmp _=>true
  | .const (.int _ _) | .const (.bool _) | .const (.chan none)=>true
  | _=>false
def freeOp (P:Program) (S:List FuncId):Op->Bool
  | .move x | .assign x=>okX x
  | .pick c a b=>okX a&&okX b
  | .binOp op t x y _=>okX x&&okX y&&(match op with | .add | .sub | .mul | .quo | .rem | .lss | .leq | .gtr | .geq | .eql | .neq=>true | _=>false)&&(match P.underlying t with | some (.int _)=>true | _=>false)
  | .unOp op _ x=>okX x&&(op == .not)
  | .build _ _=>true
  | .extract x _=>okX x
  | .call { callee:=.builtin .min,args:=as,.. }=>as.all okX
  | .call { callee:=.value (.func f),args:=as,.. }=>S.contains f&&as.all okX
  | _=>false
def NextP (S:List FuncId):Next->Prop
  | .value v=>Plain v
  | .enter f as=>f ∈ S/\∀ x ∈ as,Plain x
  | _=>False
section
variable {P:Program} {S:List FuncId}
theorem plain_eval {fr:Frame} (h:∀ x ∈ fr.tmps,Plain x) {x:Operand} (hx:okX x=true):Plain (fr.eval x):=by
  unfold okX at hx
  split at hx
  · show Plain (fr.tmps.getD _ undef)
    rename_i t
    rw [Array.getD_eq_getD_getElem?]
    cases e:fr.tmps[t]? with
    | none=>exact plain_undef
    | some v=>exact h v (Array.mem_of_getElem? e)
  · exact .int _ _
  · exact .bool _
  · exact .chan _
  · cases hx
theorem fmapML {γ β:Type} {R:β->Prop} {l:List γ} {k:γ->Sem β} (hk:∀ a,FreeP P R (k a)):FreeP P (fun _=>True) (l.mapM k):=by
  induction l with
  | nil=>exact trivial
  | cons a l ih =>
    rw [List.mapM_cons]
    exact fq (hk a) (fun _ _=>fq ih (fun _ _=>trivial))
theorem fmapMA {γ β:Type} {R:β->Prop} {l:Array γ} {k:γ->Sem β} (hk:∀ a,FreeP P R (k a)):FreeP P (fun _=>True) (l.mapM k):=by
  rw [Array.mapM_eq_mapM_toList]
  exact fm (fmapML hk) (fun _ _=>trivial)
theorem f_build (t:TypeId) (parts:Array (Nat × Value)):FreeP P Plain (Instr.build t parts):=by
  unfold Instr.build
  refine fq (fzero t) (fun z _=>fq (funderlying t) (fun d _=>?_))
  split
  · refine fq (fmapMA (R:=fun _=>True) (fun a=>fq (fsize _) (fun _ _=>trivial))) (fun pl _=>?_)
    split
    · exact Plain.agg _
    · exact fstuck _
  · refine fq (fsize _) (fun n _=>?_)
    split
    · exact Plain.agg _
    · exact fstuck _
  · exact fstuck _
theorem f_extract {v:Value} (h:Plain v) (i:Nat):FreeP P Plain (Instr.extract v i):=by
  unfold Instr.extract
  split
  · rename_i vs
    split
    · rename_i x e
      cases h with
      | tuple _ h=>exact h _ (Array.mem_of_getElem? e)
    · exact fstuck _
  · exact fstuck _
theorem f_min {l:List Value} (h:∀ x ∈ l,Plain x):∀ x,Plain x->FreeP P Plain (l.foldlM Builtin.min2 x):=by
  induction l with
  | nil=>exact fun x hx=>hx
  | cons a l ih =>
    intro x hx
    rw [List.foldlM_cons]
    refine fq (Q:=Plain) ?_ (fun y hy=>ih (fun z hz=>h z (.tail _ hz)) y hy)
    have ha:=h a (.head _)
    cases hx <;> cases ha <;> first | exact Plain.int _ _ | exact fstuck _
theorem f_equal {t:TypeId} {k:IntKind} (hu:P.underlying t=some (.int k)) (x y:Value) (hx:Plain x) (hy:Plain y):FreeP P (fun _=>True) (Op.equal t x y):=by
  show FreeP P _ (Op.equalIn (9999+1) t x y)
  unfold Op.equalIn
  unfold underlying
  simp only [bind_assoc]
  refine fprog ?_
  simp only [hu,pure_bind]
  cases hx <;> cases hy <;> first | exact trivial | exact fstuck _ | (dsimp only;split <;> first | exact trivial | exact fstuck _)
theorem f_binOp {op:BinOp} {t:TypeId} {k:IntKind} (hop:(match op with | .add | .sub | .mul | .quo | .rem | .lss | .leq | .gtr | .geq | .eql | .neq=>true | _=>false)=true) (hu:P.underlying t=some (.int k)) {x y:Value} (hx:Plain x) (hy:Plain y):FreeP P Plain (binOp op t x y):=by
  have he:=f_equal (P:=P) hu x y hx hy
  cases hx with
  | int k1 a =>
    cases hy with
    | int k2 b =>
      unfold binOp
      cases op <;> first | (cases hop;done) | skip
      all_goals dsimp only
      all_goals split <;> first | exact fstuck _ | skip
      all_goals first
        | exact Plain.int _ _
        | exact Plain.bool _
        | (unfold Op.intDiv;dsimp only;split <;> first | exact trivial | exact Plain.int _ _)
    | _=>cases op <;> first | (cases hop;done) | exact fstuck _ | exact fq he (fun _ _=>Plain.bool _)
  | bool b=>cases hy <;> cases op <;> first | (cases hop;done) | exact fstuck _ | exact fq he (fun _ _=>Plain.bool _)
  | chan r=>cases hy <;> cases op <;> first | (cases hop;done) | exact fstuck _ | exact fq he (fun _ _=>Plain.bool _)
  | agg cs=>cases hy <;> cases op <;> first | (cases hop;done) | exact fstuck _ | exact fq he (fun _ _=>Plain.bool _)
  | tuple vs hv=>cases hy <;> cases op <;> first | (cases hop;done) | exact fstuck _ | exact fq he (fun _ _=>Plain.bool _)
theorem f_eqGuardIn {t:TypeId} {k:IntKind} (hu:P.underlying t=some (.int k)) (x y:Value):FreeP P (fun _=>True) (Op.eqGuardIn Op.maxDepth t x y):=by
  show FreeP P _ (Op.eqGuardIn (9999+1) t x y)
  unfold Op.eqGuardIn
  unfold underlying
  simp only [bind_assoc]
  refine fprog ?_
  simp only [hu,pure_bind]
  exact trivial
theorem f_eqGuard {op:BinOp} {t:TypeId} {k:IntKind} (hu:P.underlying t=some (.int k)) (x y:Operand) {a b:Value} (ha:Plain a) (hb:Plain b):FreeP P (fun _=>True) (eqGuard op t x y a b):=by
  have h1:=fun x y=>f_eqGuardIn (P:=P) hu x y
  unfold eqGuard
  cases op <;> first | exact trivial | skip
  all_goals cases ha <;> first | exact trivial | skip
  all_goals cases hb <;> first | exact trivial | skip
  all_goals
    repeat' first
      | contradiction
      | exact trivial
      | (with_reducible refine fprog ?_)
      | exact h1 _ _
      | (with_reducible refine fq (h1 _ _) ?_)
      | (with_reducible intro _)
      | (exact fun b e=>by cases e)
      | split
      | (dsimp only)
theorem f_unary {x:Value} (hx:Plain x):FreeP P Plain (Op.unary .not x):=by
  unfold Op.unary
  cases hx <;> first | exact Plain.bool _ | exact fstuck _
theorem fv {s:Sem Value} (h:FreeP P Plain s):FreeP P (NextP S) (do pure (.value (<-s))):=fq h (fun _ q=>q)
theorem free_op {fs:Array Func} {T:Tables} {fr:Frame} {o:Oper} (hp:∀ x ∈ fr.tmps,Plain x) (h:freeOp ⟨T,fs⟩ S o.op=true) (hS:∀ x ∈ S,Known fs fs x):FreeP ⟨T,fs⟩ (NextP S) (execOp fr.eval o):=by
  unfold freeOp at h
  unfold execOp
  split at h
  all_goals rename_i e
  all_goals simp only [e]
  · exact plain_eval hp h
  · exact plain_eval hp h
  · simp only [Bool.and_eq_true] at h
    refine fq (Q:=fun _=>True) ?_ (fun b _=>?_)
    · unfold asBool
      split <;> first | exact trivial | exact fstuck _
    · cases b
      · exact plain_eval hp h.2
      · exact plain_eval hp h.1
  · simp only [Bool.and_eq_true] at h
    obtain ⟨⟨⟨h1,h2⟩,h3⟩,h4⟩:=h
    split at h4
    · rename_i k hu
      exact fv (fq (f_eqGuard hu _ _ (plain_eval hp h1) (plain_eval hp h2)) (fun _ _=>f_binOp h3 hu (plain_eval hp h1) (plain_eval hp h2)))
    · cases h4
  · simp only [Bool.and_eq_true,beq_iff_eq] at h
    obtain ⟨h1,h2⟩:=h
    subst h2
    exact fv (f_unary (plain_eval hp h1))
  · exact fv (f_build _ _)
  · exact fv (f_extract (plain_eval hp h) _)
  · rename_i as ts
    show FreeP ⟨T,fs⟩ (NextP S) (do pure (.value (<-Builtin.min_ ts o.type (as.map fr.eval))))
    refine fv ?_
    have hall:∀ x ∈ (as.map fr.eval).toList,Plain x:=fun x hx=>by
      rw [Array.mem_toList_iff] at hx
      obtain ⟨y,hy,rfl⟩:=Array.mem_map.1 hx
      exact plain_eval hp (Array.all_eq_true_iff_forall_mem.1 h y hy)
    unfold Builtin.min_
    generalize (as.map fr.eval).toList=l at hall
    cases l with
    | nil=>exact fstuck _
    | cons a l=>exact f_min (fun z hz=>hall z (.tail _ hz)) a (hall a (.head _))
  · rename_i x as ts
    simp only [Bool.and_eq_true] at h
    have hx:x ∈ S:=by simpa using h.1
    obtain ⟨k1,fn,k2,k3,k4⟩:=hS x hx
    have e1:resolve fr.eval { callee:=.value (.func x),args:=as,argTypes:=ts } o.type=pure { target:=.fn (.func x) #[],args:=#[]++as.map fr.eval }:=rfl
    rw [e1]
    show FreeP ⟨T,fs⟩ (NextP S) (callFunc x _)
    unfold callFunc
    refine fprog ?_
    dsimp only
    rw [k2]
    dsimp only
    rw [k4,if_neg (by simp),k3,if_neg (by simp)]
    refine ⟨hx,fun y hy=>?_⟩
    simp only [Array.empty_append,Array.append_empty] at hy
    obtain ⟨z,hz,rfl⟩:=Array.mem_map.1 hy
    exact plain_eval hp (Array.all_eq_true_iff_forall_mem.1 h.2 z hz)
  · cases h
end
end Go.Proofs.YteaieagkjepgiaaGreatDoor
/- . -/
namespace Go.Proofs.YteaieagkjepgiaaGreatDoor
set_option maxRecDepth 100000
open Go.Conc
def Pl (fr:Frame):Prop:=∀ x ∈ fr.tmps,Plain x
section
variable {ok:Op->Bool} {S:List FuncId} {T:Tables} {g:Array Func} {fr fr':Frame} {tops tops' X cs:List Frame} {v v' w:World}
theorem Pl.finish (h:Pl fr) {x:Value} (hx:Plain x):Pl (fr.finish x):=by
  unfold Frame.finish
  split
  · split
    · intro y hy
      rcases Array.mem_or_eq_of_mem_setIfInBounds hy with q | rfl
      · exact h y q
      · exact hx
    · exact h
  all_goals first
    | exact h
    | (intro y hy;have:y=x:=by simpa using hy
       subst this;exact hx)
theorem Pl.enter {P:Program} {x:FuncId} {as:Array Value} (h:∀ y ∈ as,Plain y):Pl (Frame.enter P x as .normal):=by
  intro y hy
  rcases Array.mem_append.1 hy with q | q
  · exact h y q
  · have:=Array.eq_of_mem_replicate q
    subst this
    exact plain_undef
theorem fmapMLp {P:Program} {γ β:Type} {R:β->Prop} {l:List γ} {k:γ->Sem β} (hk:∀ a ∈ l,FreeP P R (k a)):FreeP P (fun vs=>∀ x ∈ vs,R x) (l.mapM k):=by
  induction l with
  | nil=>exact fun x hx=>by simp at hx
  | cons a l ih =>
    rw [List.mapM_cons]
    refine fq (hk a (.head _)) (fun y hy=>fq (ih (fun z hz=>hk z (.tail _ hz))) (fun ys hys=>fun x hx=>?_))
    rcases List.mem_cons.1 hx with rfl | q
    · exact hy
    · exact hys x q
theorem free_results {P:Program} {fn:Func} (h:fn.results.all (fun r=>match r with | .tmp _=>true | _=>false)=true) {tmps:Array Value} (hp:∀ x ∈ tmps,Plain x):FreeP P Plain (results fn tmps):=by
  unfold results
  refine fq (Q:=fun vs=>∀ x ∈ vs,Plain x) ?_ (fun vs hvs=>?_)
  · rw [Array.mapM_eq_mapM_toList]
    refine fm (fmapMLp (R:=Plain) (fun r hr=>?_)) (fun l hl x hx=>hl x (by simpa using hx))
    have:=Array.all_eq_true_iff_forall_mem.1 h r (by simpa using hr)
    cases r with
    | tmp t =>
      show Plain (tmps.getD t undef)
      rw [Array.getD_eq_getD_getElem?]
      cases e:tmps[t]? with
      | none=>exact plain_undef
      | some x=>exact hp x (Array.mem_of_getElem? e)
    | cell a t=>cases this
  · show Plain (if h:vs.size=1 then vs[0] else .tuple vs)
    split
    · exact hvs _ (Array.getElem_mem _)
    · exact .tuple _ hvs
theorem skip_step {P:Program} {main:Bool} (hr:fr.roundOf=none) (hm:fr.mode = .run) {ops:Array Oper} {i:Nat} {r:List Nat} {k:List Item} (ht:fr.todo = .inRegion ops (i::r)::k) (hn:∀ o,ops[i]?=some o->Region.wanted o (yielded ops fr.tmps)=false):stepG P main (Gr fr cs) v = .go (Gr (fr.finish undef) cs) v #[]:=by
  obtain ⟨fn',tmps,todo,defers,mode,kind,round⟩:=fr
  simp only at hr hm ht hn
  subst hr hm ht
  cases h:ops[i]? with
  | none=>simp [stepG,stepG.exec,stepG.oper,Frame.oper?,h]
  | some o=>simp [stepG,stepG.exec,stepG.oper,Frame.oper?,h,hn o h]
theorem free_any (hF:∀ x ∈ S,Fine ok g g x) (hres:∀ x ∈ S,∀ fn,g[x]?=some fn->fn.results.all (fun r=>match r with | .tmp _=>true | _=>false)=true) (hok:∀ o,ok o=true->okOp ⟨T,g⟩ S o=true->freeOp ⟨T,g⟩ S o=true) (hok2:∀ o,ok o=true->okOp ⟨T,g⟩ S o=true) (ho:Ord ok S fr) (ht:∀ t ∈ tops,Ord ok S t/\t.mode = .run) (hp:Pl fr) (hpt:∀ t ∈ tops,Pl t)
    (hsp:¬ Spec ⟨T,g⟩ S fr tops) {es:Array Event} {m:Bool} (hst:stepG ⟨T,g⟩ m (Gr fr (tops++X)) v = .go (Gr fr' (tops'++X)) v' es) (hc:∀ ch,fr'.mode ≠ .panicking ch) :
    Pl fr'/\(∀ t ∈ tops',Pl t)/\v'.heap=v.heap/\∀ (main:Bool) (cs:List Frame) (w:World),(∀ q,w.tape w.drawn q=v.tape v.drawn q)->∃ d,stepG ⟨T,g⟩ main (Gr fr (tops++cs)) w = .go (Gr fr' (tops'++cs)) (w.at d) #[]:=by
  have fin:∀ {a:Frame} {l:List Frame} {u:World} {es':Array Event},stepG ⟨T,g⟩ m (Gr fr (tops++X)) v = .go (Gr a (l++X)) u es'->fr'=a/\tops'=l/\v'=u:=by
    intro a l u es' e
    rw [hst] at e
    injection e with q1 q2 q3
    injection q1 with q4 q5
    exact ⟨q4,List.append_cancel_right q5,q2⟩
  cases hmd:fr.mode with
  | panicking ch =>
    exfalso
    cases tops with
    | nil=>exact hsp (.inl ⟨rfl,by rw [hmd];simp⟩)
    | cons t tops =>
      obtain ⟨_,fn,k2,_⟩:=(hF fr.fn ho.fn).1
      have e:=panic_up (T:=T) (f:=g) ho hmd k2 m t (tops++X) v
      obtain ⟨q1,_⟩:=fin (a:=t.raise ch) (l:=tops) (u:=v) (es':=#[]) e
      exact hc ch (by rw [q1];exact raise_mode (ht t (.head _)).2 ch)
  | returning =>
    cases tops with
    | nil=>exact absurd (.inl ⟨rfl,by rw [hmd];simp⟩) hsp
    | cons c rest =>
      obtain ⟨_,fn,k2,_⟩:=(hF fr.fn ho.fn).1
      have step:∀ (main:Bool) (x:List Frame) (u:World),stepG ⟨T,g⟩ main (Gr fr (c::rest++x)) u=GStep.after (seen ⟨T,g⟩ fr.fn ((results fn fr.tmps).runT ⟨T,g⟩ u #[]).2) (match ((results fn fr.tmps).runT ⟨T,g⟩ u #[]).1 with
          | .ok a v'=>.go (Gr (c.finish a) (rest++x)) v'
          | .halt (.stuck s) v'=>.ended (.stuck s (fr.pos ⟨T,g⟩)) v'
          | .halt _ v'=>.ended (.stuck "return: the result variables cannot be read" (fr.pos ⟨T,g⟩)) v'):=by
        intro main x u
        have hdf:=ho.defers
        have hkd:=ho.kind
        obtain ⟨fn',tmps,todo,defers,mode,kind,round⟩:=fr
        simp only at hmd hdf k2 hkd
        subst hmd hdf hkd
        simp only [stepG,unwind,k2,List.cons_append,doReturn]
        rfl
      rcases free_run (P:=⟨T,g⟩) _ (free_results (P:=⟨T,g⟩) (hres fr.fn ho.fn fn k2) hp) with ⟨a,ha,e⟩ | ⟨x,_,e⟩
      · have go:∀ (main:Bool) (x:List Frame) (u:World),stepG ⟨T,g⟩ main (Gr fr (c::rest++x)) u = .go (Gr (c.finish a) (rest++x)) u #[]:=by
          intro main x u
          rw [step,e]
          simp [GStep.after,seen]
        obtain ⟨rfl,rfl,rfl⟩:=fin (go m X v)
        exact ⟨(hpt c (.head _)).finish ha,fun t q=>hpt t (.tail _ q),rfl,fun main cs w _=>⟨w.drawn,go main cs w⟩⟩
      · exfalso
        rw [step,e] at hst
        cases x <;> cases hst
  | run =>
    by_cases hd:∃ id ops k,fr.todo = .code (.region id ops true)::k
    · obtain ⟨id,ops,k,hd⟩:=hd
      have step:∀ (main:Bool) (c:List Frame) (u:World),stepG ⟨T,g⟩ main (Gr fr c) u = .go (Gr { fr with todo:=.inRegion ops (Region.schedule ((⟨T,g⟩:Program).follows .mixedOrders) ops (u.tape u.drawn (.order fr.fn id)))::k } c) { u with drawn:=u.drawn+1 } #[]:=by
        intro main c u
        obtain ⟨fn,tmps,todo,defers,mode,kind,round⟩:=fr
        simp only at hmd hd
        subst hmd hd
        first | (simp [stepG,stepG.exec,choose,Sem.run,Question.forced,Question.cut];done) | (simp [stepG,stepG.exec,choose,Sem.run,Question.forced,Question.cut];rfl)
      obtain ⟨rfl,rfl,rfl⟩:=fin (step m (tops++X) v)
      exact ⟨hp,hpt,rfl,fun main cs w hq=>⟨w.drawn+1,by rw [step,hq];rfl⟩⟩
    · by_cases hop:∃ ops i r k o,fr.todo = .inRegion ops (i::r)::k/\ops[i]?=some o/\Region.wanted o (yielded ops fr.tmps)=true
      · obtain ⟨ops,i,r,k,o,h1,h2,h3⟩:=hop
        have h5:ok o.op=true:=by
          have:=ho.items _ (by rw [h1];exact .head _)
          exact Array.all_eq_true_iff_forall_mem.1 this _ (Array.mem_of_getElem? h2)
        have h4:okOp ⟨T,g⟩ S o.op=true:=hok2 _ h5
        have e0:∀ (main:Bool) (x:List Frame) (u:World),stepG ⟨T,g⟩ main (Gr fr x) u=stepG.apply ⟨T,g⟩ true fr x none (execOp fr.eval o) u:=fun _ x u=>step_op ho.round hmd h1 h2 h3
        have hkd:=ho.kind
        rcases free_run (P:=⟨T,g⟩) _ (free_op (T:=T) hp (hok _ h5 h4) (fun x hx=>(hF x hx).1)) with ⟨a,ha,e⟩ | ⟨x,hx,e⟩
        · cases a with
          | value y =>
            have go:∀ (main:Bool) (x:List Frame) (u:World),stepG ⟨T,g⟩ main (Gr fr x) u = .go (Gr (fr.finish y) x) u #[]:=by
              intro main x u
              rw [e0]
              simp [-Sem.runT_eq,stepG.apply,e,GStep.after,hkd,seen]
            obtain ⟨rfl,rfl,rfl⟩:=fin (go m (tops++X) v)
            exact ⟨hp.finish ha,hpt,rfl,fun main cs w _=>⟨w.drawn,go main _ w⟩⟩
          | enter y as =>
            have go:∀ (main:Bool) (x:List Frame) (u:World),stepG ⟨T,g⟩ main (Gr fr x) u = .go (Gr (Frame.enter ⟨T,g⟩ y as .normal) (fr::x)) u #[]:=by
              intro main x u
              rw [e0]
              simp [-Sem.runT_eq,stepG.apply,e,GStep.after,hkd,h1,seen]
            obtain ⟨rfl,rfl,rfl⟩:=fin (l:=fr::tops) (go m (tops++X) v)
            refine ⟨Pl.enter ha.2,fun t q=>?_,rfl,fun main cs w _=>⟨w.drawn,go main _ w⟩⟩
            rcases List.mem_cons.1 q with rfl | q
            · exact hp
            · exact hpt t q
          | _=>exact ha.elim
        · exfalso
          rw [e0] at hst
          cases x with
          | panic y =>
            have go:stepG.apply ⟨T,g⟩ true fr (tops++X) none (execOp fr.eval o) v = .go (Gr (fr.raise [{ v:=y,recovered:=false }]) (tops++X)) v #[]:=by
              simp [-Sem.runT_eq,stepG.apply,e,GStep.after,hkd,seen]
            obtain ⟨rfl,_⟩:=fin ((e0 _ _ _).trans go)
            exact hc _ (raise_mode hmd _)
          | stuck y=>simp [-Sem.runT_eq,stepG.apply,e,GStep.after,hkd,seen] at hst
          | unsupported u=>cases u <;> first | (exact absurd rfl (hx _)) | (simp [-Sem.runT_eq,stepG.apply,e,GStep.after,hkd,seen] at hst;done)
          | _=>exact hx.elim
      · rcases ctl ho hmd (fun id ops k e=>hd ⟨id,ops,k,e⟩) (fun ops i r k e=>by
          cases h2:ops[i]? with
          | none=>rfl
          | some o =>
            cases h3:Region.wanted o (yielded ops fr.tmps) with
            | false=>simp [h3]
            | true=>exact absurd ⟨ops,i,r,k,o,e,h2,h3⟩ hop) with ⟨a,_,mv,_,q⟩ | q
        · obtain ⟨rfl,rfl,rfl⟩:=fin (q ⟨T,g⟩ m (tops++X) v)
          refine ⟨?_,hpt,rfl,fun main cs w _=>⟨w.drawn,q _ main _ w⟩⟩
          cases mv with
          | same=>exact hp
          | to k' _ _=>exact hp
          | ret _ _=>exact hp
          | @fin x ops i r k _ e =>
            have e2:stepG ⟨T,g⟩ true (Gr fr []) v' = .go (Gr (fr.finish undef) []) v' #[]:=by
              have hn:∀ o,ops[i]?=some o->Region.wanted o (yielded ops fr.tmps)=false:=fun o ho'=>by
                cases h3:Region.wanted o (yielded ops fr.tmps) with
                | false=>rfl
                | true=>exact absurd ⟨ops,i,r,k,o,e,ho',h3⟩ hop
              exact skip_step ho.round hmd e hn
            have e3:=q ⟨T,g⟩ true [] v'
            rw [e2] at e3
            injection e3 with q1
            injection q1 with q2
            rw [<-q2]
            exact hp.finish plain_undef
          | raise ch=>unfold Frame.raise;split <;> exact hp
        · obtain ⟨o,w',es',e⟩:=q ⟨T,g⟩ m (tops++X) v
          rw [hst] at e
          cases e
end
end Go.Proofs.YteaieagkjepgiaaGreatDoor
/- . -/
namespace Go.Proofs.YteaieagkjepgiaaGreatDoor
set_option maxRecDepth 100000
open Go.Conc
abbrev fm3 (fn:FuncId) (tmps:Array Value) (todo:List Item):Frame:={ fn:=fn,tmps:=tmps,todo:=todo,defers:=[],mode:=.run,kind:=.deferred }
abbrev Sg (P:Program) (c:Nat) (fn:FuncId) (cs:List Frame) (vs:List Value) (tmps:Array Value) (todo:List Item):Prop:=Sender P c vs (Gr (fm3 fn tmps todo) cs)
section
variable {P:Program} {c:Nat} {fn:FuncId} {cs:List Frame} {vs:List Value} {tmps:Array Value} {k:List Item}
theorem sg_go {g g':Goroutine} (hr:g.status = .running) (h:∀ w,stepG P false g w = .go g' w #[]) (hn:Sender P c vs g'):Sender P c vs g:=
  .step (fun w=>(g',w.drawn)) hr h (fun _=>hn)
theorem sg_seq {a b:Code} (h:Sg P c fn cs vs tmps (.code a::.code b::k)):Sg P c fn cs vs tmps (.code (.seq a b)::k):=sg_go rfl (fun _=>rfl) h
theorem sg_block {id:Nat} {a:Code} (h:Sg P c fn cs vs tmps (.code a::.inBlock id::k)):Sg P c fn cs vs tmps (.code (.block id a)::k):=sg_go rfl (fun _=>rfl) h
theorem sg_loop {a:Code} (h:Sg P c fn cs vs tmps (.code a::.inLoop a::k)):Sg P c fn cs vs tmps (.code (.loop a)::k):=sg_go rfl (fun _=>rfl) h
theorem sg_inLoop {a:Code} (h:Sg P c fn cs vs tmps (.code a::.inLoop a::k)):Sg P c fn cs vs tmps (.inLoop a::k):=sg_go rfl (fun _=>rfl) h
theorem sg_inBlock {id:Nat} (h:Sg P c fn cs vs tmps k):Sg P c fn cs vs tmps (.inBlock id::k):=sg_go rfl (fun _=>rfl) h
theorem sg_skip (h:Sg P c fn cs vs tmps k):Sg P c fn cs vs tmps (.code .skip::k):=sg_go rfl (fun _=>rfl) h
theorem sg_region {id:Nat} {ops:Array Oper} (h:Sg P c fn cs vs tmps (.inRegion ops (List.range ops.size)::k)):Sg P c fn cs vs tmps (.code (.region id ops false)::k):=by
  refine sg_go rfl (fun w=>?_) h
  simp [stepG,stepG.exec]
theorem sg_done {ops:Array Oper} (h:Sg P c fn cs vs tmps k):Sg P c fn cs vs tmps (.inRegion ops []::k):=sg_go rfl (fun _=>rfl) h
theorem sg_cond {x:Operand} {a b:Code} {v:Bool} (hv:(fm3 fn tmps []).eval x = .bool v) (h:Sg P c fn cs vs tmps (.code (if v then a else b)::k)):Sg P c fn cs vs tmps (.code (.cond x a b)::k):=by
  have hv':∀ t,(fm3 fn tmps t).eval x = .bool v:=fun t=>hv
  refine sg_go rfl (fun w=>?_) h
  simp [stepG,stepG.exec,hv']
theorem sg_exit {id:Nat} {k':List Item} (he:exitTo id k=some k') (h:Sg P c fn cs vs tmps k'):Sg P c fn cs vs tmps (.code (.exit id)::k):=by
  refine sg_go rfl (fun w=>?_) h
  simp [stepG,stepG.exec,he]
theorem sg_op {ops:Array Oper} {i d:Nat} {r:List Nat} {o:Oper} {v:Value} (ho:ops[i]?=some o) (hg:o.guard=none) (hd:o.dst=some d) (hv:∀ w es,(execOp (fm3 fn tmps []).eval o).runT P w es=(.ok (.value v) w,es))
    (h:Sg P c fn cs vs (tmps.setIfInBounds d v) (.inRegion ops r::k)):Sg P c fn cs vs tmps (.inRegion ops (i::r)::k):=by
  refine sg_go rfl (fun w=>?_) h
  have hw:Region.wanted o (yielded ops tmps)=true:=by unfold Region.wanted;rw [hg]
  rw [step_op (fr:=fm3 fn tmps (.inRegion ops (i::r)::k)) rfl rfl rfl ho hw]
  have hv':(execOp (fm3 fn tmps (.inRegion ops (i::r)::k)).eval o).runT P w #[]=(.ok (.value v) w,#[]):=hv w #[]
  simp [-Sem.runT_eq,stepG.apply,hv',GStep.after,seen,Frame.finish,ho,hd]
theorem ev_tmp {t:Nat} {v:Value} (h:tmps.getD t undef=v):(fm3 fn tmps []).eval (.tmp t)=v:=h
theorem sg_move {ops:Array Oper} {i d t:Nat} {r:List Nat} {o:Oper} {v:Value} (ho:ops[i]?=some o) (hg:o.guard=none) (hd:o.dst=some d) (hop:o.op = .move (.tmp t)\/o.op = .assign (.tmp t)) (hx:tmps.getD t undef=v)
    (h:Sg P c fn cs vs (tmps.setIfInBounds d v) (.inRegion ops r::k)):Sg P c fn cs vs tmps (.inRegion ops (i::r)::k):=by
  refine sg_op ho hg hd (fun w es=>?_) h
  unfold execOp
  rcases hop with e | e <;> (rw [e];show (_,_)=_;rw [<-hx];rfl)
theorem sg_const {ops:Array Oper} {i d:Nat} {r:List Nat} {o:Oper} {v:Value} (ho:ops[i]?=some o) (hg:o.guard=none) (hd:o.dst=some d) (hop:o.op = .assign (.const v))
    (h:Sg P c fn cs vs (tmps.setIfInBounds d v) (.inRegion ops r::k)):Sg P c fn cs vs tmps (.inRegion ops (i::r)::k):=by
  refine sg_op ho hg hd (fun w es=>?_) h
  unfold execOp
  rw [hop]
  rfl
theorem sg_bin {ops:Array Oper} {i d:Nat} {r:List Nat} {o:Oper} {op:BinOp} {ty ty':TypeId} {x y:Operand} {a b:Int} {v:Value} (ho:ops[i]?=some o) (hg:o.guard=none) (hd:o.dst=some d) (hop:o.op = .binOp op ty x y ty') (hx:(fm3 fn tmps []).eval x = .int .i64 a) (hy:(fm3 fn tmps []).eval y = .int .i64 b)
    (hv:(op = .add/\v = .int .i64 (IntKind.i64.wrap (a+b)))\/(op = .lss/\v = .bool (a<b)))
    (h:Sg P c fn cs vs (tmps.setIfInBounds d v) (.inRegion ops r::k)):Sg P c fn cs vs tmps (.inRegion ops (i::r)::k):=by
  refine sg_op ho hg hd (fun w es=>?_) h
  unfold execOp
  rw [hop]
  dsimp only
  rw [hx,hy]
  rcases hv with ⟨rfl,rfl⟩ | ⟨rfl,rfl⟩ <;> rfl
theorem sg_extract {ops:Array Oper} {i d t j:Nat} {r:List Nat} {o:Oper} {us:Array Value} {v:Value} (ho:ops[i]?=some o) (hg:o.guard=none) (hd:o.dst=some d) (hop:o.op = .extract (.tmp t) j) (hx:tmps.getD t undef = .tuple us) (hj:us[j]?=some v)
    (h:Sg P c fn cs vs (tmps.setIfInBounds d v) (.inRegion ops r::k)):Sg P c fn cs vs tmps (.inRegion ops (i::r)::k):=by
  refine sg_op ho hg hd (fun w es=>?_) h
  unfold execOp
  rw [hop]
  dsimp only
  rw [ev_tmp hx]
  simp only [Instr.extract,hj]
  rfl
theorem sg_min {ops:Array Oper} {i d:Nat} {r:List Nat} {o:Oper} {x y:Operand} {ts:Array TypeId} {a b:Int} (ho:ops[i]?=some o) (hg:o.guard=none) (hd:o.dst=some d) (hop:o.op = .call { callee:=.builtin .min,args:=#[x,y],argTypes:=ts }) (hx:(fm3 fn tmps []).eval x = .int .i64 a) (hy:(fm3 fn tmps []).eval y = .int .i64 b)
    (h:Sg P c fn cs vs (tmps.setIfInBounds d (.int .i64 (if b<a then b else a))) (.inRegion ops r::k)):Sg P c fn cs vs tmps (.inRegion ops (i::r)::k):=by
  refine sg_op ho hg hd (fun w es=>?_) h
  unfold execOp
  rw [hop]
  show Sem.runT P (do let v <-Builtin.min_ ts o.type (#[x,y].map (fm3 fn tmps []).eval);pure (Next.value v)) w es=_
  have e:(#[x,y].map (fm3 fn tmps []).eval)=#[.int .i64 a,.int .i64 b]:=by simp [hx,hy]
  rw [e]
  rfl
theorem sg_send {ops:Array Oper} {i:Nat} {r:List Nat} {o:Oper} {x y:Operand} {v:Value} {vs':List Value} (ho:ops[i]?=some o) (hg:o.guard=none) (hd:o.dst=none) (hop:o.op = .send x y) (hx:(fm3 fn tmps []).eval x = .chan (some c)) (hy:(fm3 fn tmps []).eval y=v)
    (h:Sg P c fn cs vs' tmps (.inRegion ops r::k)):Sg P c fn cs (v::vs') tmps (.inRegion ops (i::r)::k):=by
  have hw:Region.wanted o (yielded ops tmps)=true:=by unfold Region.wanted;rw [hg]
  refine .send (g₂:=Gr (fm3 fn tmps (.inRegion ops (i::r)::k)) cs) (z:=.tuple #[]) rfl (fun w=>?_) ?_
  · rw [step_op (fr:=fm3 fn tmps (.inRegion ops (i::r)::k)) rfl rfl rfl ho hw]
    have hv':(execOp (fm3 fn tmps (.inRegion ops (i::r)::k)).eval o).runT P w #[]=(.ok (.comm #[scase c v (.tuple #[])] true .send) w,#[]):=by
      unfold execOp
      rw [hop]
      show (_,_)=_
      have e1:(fm3 fn tmps (.inRegion ops (i::r)::k)).eval x = .chan (some c):=hx
      have e2:(fm3 fn tmps (.inRegion ops (i::r)::k)).eval y=v:=hy
      rw [e1,e2]
      rfl
    simp [-Sem.runT_eq,stepG.apply,hv',GStep.after,seen]
  · have e:Go.Conc.served (Gr (fm3 fn tmps (.inRegion ops (i::r)::k)) cs) undef=Gr (fm3 fn tmps (.inRegion ops r::k)) cs:=by
      simp [Go.Conc.served,Frame.finish,ho,hd]
    rw [e]
    exact h
end
end Go.Proofs.YteaieagkjepgiaaGreatDoor
/- . -/
namespace Go.Proofs.YteaieagkjepgiaaGreatDoor
set_option maxRecDepth 100000
open Go.Conc
structure Plainly3 (T:Tables) (g:Array Func) (S:List FuncId):Prop where
  fine:∀ x ∈ S,Fine (freeOp ⟨T,g⟩ S) g g x
  res:∀ x ∈ S,∀ fn,g[x]?=some fn->fn.results.all (fun r=>match r with | .tmp _=>true | _=>false)=true
  st:∀ b,(⟨T,g⟩:Program).stepOf b=none
  ok:∀ o,freeOp ⟨T,g⟩ S o=true->okOp ⟨T,g⟩ S o=true
  ns:∀ x ∈ S,noSlots x=true
theorem run_of {α:Type} {P:Program} {s:Sem α} {w:World} {es es':Array Event} {r:Result α} (h:s.runT P w es=(r,es')):s.run P w=r:=by
  rw [<-Sem.runT_fst P s w es,h]
section
variable {T:Tables} {g:Array Func} {S:List FuncId} {c:Nat} {vs:List Value} {fr fr':Frame} {tops cs:List Frame} {u:World} {Fin:Frame->World->Prop}
theorem Plainly3.gv (hE:Plainly3 T g S) (ho:Ord (freeOp ⟨T,g⟩ S) S fr):Gv fr.fn fr.eval:=fun s k hk=>by
  rw [no_slots (hE.ns _ ho.fn) s] at hk
  cases hk
theorem free_sender (hE:Plainly3 T g S) (h:Tree ⟨T,g⟩ S (fun _ _ _ _ _ _=>False) fr tops u):Ord (freeOp ⟨T,g⟩ S) S fr->(∀ t ∈ tops,Ord (freeOp ⟨T,g⟩ S) S t/\t.mode = .run)->Pl fr->(∀ t ∈ tops,Pl t)->Tm2 ⟨T,g⟩ Fin fr tops u ->
    (∀ (fr':Frame) (u':World),Ord (freeOp ⟨T,g⟩ S) S fr'->Pl fr'->fr'.mode = .returning->Fin fr' u'->Sender ⟨T,g⟩ c vs (Gr fr' cs))->Sender ⟨T,g⟩ c vs (Gr fr (tops++cs)):=by
  induction h with
  | @fin fr u hm =>
    intro ho _ hp _ hT k
    obtain ⟨_,fn0,k2,_⟩:=(hE.fine fr.fn ho.fn).1
    obtain ⟨hm',hf⟩:=sent_end ho ⟨fn0,k2⟩ hm hT
    exact k fr (Rt u u.tape) ho hp hm' (hf u.tape (fun _ _=>rfl))
  | @step fr tops u N he hs hsp ih =>
    intro ho ht hp hpt hT k
    have one:∀ w:World,∃ d,stepG ⟨T,g⟩ false (Gr fr (tops++cs)) w = .go (Gr (N (glue u w w.drawn) (glue_ext u w w.drawn)).1 ((N (glue u w w.drawn) (glue_ext u w w.drawn)).2.1++cs)) (w.at d) #[] /\
        Sender ⟨T,g⟩ c vs (Gr (N (glue u w w.drawn) (glue_ext u w w.drawn)).1 ((N (glue u w w.drawn) (glue_ext u w w.drawn)).2.1++cs)):=by
      intro w
      obtain ⟨fr3,tops3,u3,es3,e3,_,o3,t3,_,_,_,hT3,_⟩:=tm_step ho ht hE.fine hE.st hsp (hE.gv ho) hT _ (glue_ext u w w.drawn)
      have e4:=he (glue u w w.drawn) (glue_ext u w w.drawn)
      have i4:=ih (glue u w w.drawn) (glue_ext u w w.drawn)
      rw [e3] at e4
      injection e4 with q1 q2 q3
      injection q1 with q4 q5
      have q6:=List.append_cancel_right q5
      rw [<-q4,<-q6,<-q2] at i4
      rw [<-q4,<-q6]
      have calm:=hT3.calm hE.fine o3 t3
      obtain ⟨p1,p2,_,p3⟩:=free_any hE.fine hE.res (fun o h1 _=>h1) hE.ok ho ht hp hpt hsp e3 calm
      obtain ⟨d,hd⟩:=p3 false cs w (fun q=>by
        show w.tape w.drawn q=glue u w w.drawn u.drawn q
        unfold glue
        rw [if_neg (by omega),Nat.sub_self,Nat.add_zero])
      exact ⟨d,hd,i4 o3 t3 p1 p2 hT3 k⟩
    exact .step (fun w=>(_,Classical.choose (one w))) rfl (fun w=>(Classical.choose_spec (one w)).1) (fun w=>(Classical.choose_spec (one w)).2)
  | jump hj _ _=>exact hj.elim
theorem sender_call (hE:Plainly3 T g S) {x:FuncId} {as:Array Value} {v:Value} (hx:x ∈ S) (has:∀ y ∈ as,Plain y) (hcalls:∀ w,Calls ⟨T,g⟩ x as w fun e _=>e = .returned v) {frc:Frame} (hn:Sender ⟨T,g⟩ c vs (Gr (frc.finish v) cs)):Sender ⟨T,g⟩ c vs (Gr (Frame.enter ⟨T,g⟩ x as .normal) (frc::cs)):=by
  have hT:=tm_begin (T:=T) (f:=g) (L:=x) (args:=as) (w₀:=default) (Q:=fun _ v' _=>v'=v) (fun τ=>(hcalls (Rt default τ)).mono (fun e w' q=>⟨v,q,rfl⟩)) rfl
  have ho:Ord (freeOp ⟨T,g⟩ S) S (Frame.enter ⟨T,g⟩ x as .normal):=enter_ord hx (hE.fine x hx)
  have htree:Tree ⟨T,g⟩ S (fun _ _ _ _ _ _=>False) (Frame.enter ⟨T,g⟩ x as .normal) [] default:=by
    refine bar (I:=fun fr _ _=>fr.fn ∈ S) hE.fine hE.st (fun fr tops w hi s k hk=>by rw [no_slots (hE.ns _ hi) s] at hk;cases hk) (fun fr tops w fr' tops' w' τ es ho' ht' hsp hn kc hst hT' hi=>?_) (fun fr tops w ho' ht' hm hsp _ _=>?_) ho (by simp) hx hT
    · cases hn with
      | move hm=>rw [move_fn hm];exact hi
      | enter y as hm e h1 hk hx'=>exact hx'.1
      | back v hm=>rw [finish_fn];exact (ht' _ (.head _)).1.fn
      | up ch hm=>rw [raise_fn];exact (ht' _ (.head _)).1.fn
    exfalso
    rcases hsp with ⟨_,q⟩ | ⟨_,ops,i,r,k,o,e1,e2,_,e4⟩
    · exact q hm
    · have:=ho'.items _ (by rw [e1];exact .head _)
      have:=hE.ok _ (Array.all_eq_true_iff_forall_mem.1 this _ (Array.mem_of_getElem? e2))
      rw [okDy_of this] at e4
      cases e4
  have:=free_sender (c:=c) (vs:=vs) (cs:=frc::cs) hE htree ho (by simp) (Pl.enter has) (by simp) hT ?_
  · exact this
  · rintro fr' u' ho' hp' hm' ⟨τ,v',fn,h1,h2,h3,rfl⟩
    have step:∀ (u:World),stepG ⟨T,g⟩ false (Gr fr' (frc::cs)) u=GStep.after (seen ⟨T,g⟩ fr'.fn ((results fn fr'.tmps).runT ⟨T,g⟩ u #[]).2) (match ((results fn fr'.tmps).runT ⟨T,g⟩ u #[]).1 with
        | .ok a v'=>.go (Gr (frc.finish a) cs) v'
        | .halt (.stuck s) v'=>.ended (.stuck s (fr'.pos ⟨T,g⟩)) v'
        | .halt _ v'=>.ended (.stuck "return: the result variables cannot be read" (fr'.pos ⟨T,g⟩)) v'):=by
      intro u
      have hdf:=ho'.defers
      have hkd:=ho'.kind
      have hfn:g[fr'.fn]?=some fn:=by rw [h1];exact h2
      obtain ⟨fn',tmps,todo,defers,mode,kind,round⟩:=fr'
      simp only at hm' hdf hfn hkd
      subst hm' hdf hkd
      simp only [stepG,unwind,hfn,doReturn]
      rfl
    rcases free_run (P:=⟨T,g⟩) _ (free_results (P:=⟨T,g⟩) (hE.res x hx fn h2) hp') with ⟨a,ha,e⟩ | ⟨y,_,e⟩
    · have ea:a=v':=by
        have e5:=e u' #[]
        have e6:(results fn fr'.tmps).run ⟨T,g⟩ u' = .ok a u':=run_of e5
        rw [h3] at e6
        cases e6
        rfl
      subst ea
      refine sg_go rfl (fun w=>?_) hn
      rw [step,e]
      simp [GStep.after,seen]
    · exfalso
      have e6:(results fn fr'.tmps).run ⟨T,g⟩ u' = .halt y u':=run_of (e u' #[])
      rw [h3] at e6
      cases e6
end
end Go.Proofs.YteaieagkjepgiaaGreatDoor
