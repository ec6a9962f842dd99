/- Texts of ours, laid one behind the other: SeH, SeI, SeJ, SeK, SeL, SeM, SeN. -/
import Derived.Test.YteaieagkjepgiaaGreatDoorPfM3
import Derived.Conc.Own
import Derived.KernelRfl
import Derived.Conc.BesideWords
set_option linter.unusedVariables false
set_option linter.unusedSimpArgs false
/- . -/
namespace Go.Proofs.YteaieagkjepgiaaGreatDoor
set_option maxRecDepth 100000
open Go.Conc
def okCode (ok:Op->Bool):Code->Bool
  | .skip | .ret | .exit _=>true
  | .region _ ops _=>ops.all (fun o=>ok o.op)
  | .seq a b=>okCode ok a&&okCode ok b
  | .cond _ a b=>okCode ok a&&okCode ok b
  | .block _ c=>okCode ok c
  | .loop c=>okCode ok c
  | .scope c=>okCode ok c
  | _=>false
def okItem (ok:Op->Bool):Item->Bool
  | .code c=>okCode ok c
  | .inBlock _=>true
  | .inLoop c=>okCode ok c
  | .inScope c=>okCode ok c
  | .inRegion ops _=>ops.all (fun o=>ok o.op)
  | _=>false
structure Ord (ok:Op->Bool) (S:List FuncId) (fr:Frame):Prop where
  fn:fr.fn ∈ S
  items:∀ i ∈ fr.todo,okItem ok i=true
  defers:fr.defers=[]
  kind:fr.kind = .normal
  round:fr.roundOf=none
abbrev Gr (fr:Frame) (cs:List Frame):Goroutine:={ frame:=fr,callers:=cs,status:=.running,dying:=none }
def Ctl (fr:Frame) (k':List Item):Prop:=
  match fr.todo with
  | .inBlock _::k | .inScope _::k | .inRegion _ []::k | .code .skip::k=>k'=k
  | .inLoop c::k | .code (.loop c)::k=>k' = .code c::.inLoop c::k
  | .code (.seq a b)::k=>k' = .code a::.code b::k
  | .code (.cond c a b)::k=>∃ v,fr.eval c = .bool v/\k' = .code (if v then a else b)::k
  | .code (.block id c)::k=>k' = .code c::.inBlock id::k
  | .code (.scope c)::k=>k' = .code c::.inScope c::k
  | .code (.exit id)::k=>exitTo id k=some k'
  | .code (.region _ ops d)::k=>∃ l,(d=false->l=List.range ops.size)/\k' = .inRegion ops l::k
  | _=>False
inductive Move (fr:Frame):Frame->Prop
  | same:Move fr fr
  | fin (v:Value) {ops:Array Oper} {i:Nat} {r:List Nat} {k:List Item} (hm:fr.mode = .run) (ht:fr.todo = .inRegion ops (i::r)::k):Move fr (fr.finish v)
  | to (k':List Item) (hm:fr.mode = .run) (hc:Ctl fr k'):Move fr { fr with todo:=k' }
  | ret (hm:fr.mode = .run) (ht:fr.todo=[]\/∃ k,fr.todo = .code .ret::k):Move fr { fr with mode:=.returning }
  | raise (ch:List PanicEntry):Move fr (fr.raise ch)
inductive Near (P:Program) (S:List FuncId) (fr:Frame):List Frame->Frame->List Frame->Prop
  | move {tops:List Frame} {fr':Frame} (h:Move fr fr'):Near P S fr tops fr' tops
  | enter {tops:List Frame} (x:FuncId) (as:Array Value) {o:Oper} {ops:Array Oper} {i:Nat} {r:List Nat} {k:List Item} (hm:fr.mode = .run) (ht:fr.todo = .inRegion ops (i::r)::k) (ho:ops[i]?=some o) (hk:okDy P S fr.fn o.op=true)
      (hx:x ∈ S/\∀ S':List FuncId,(∀ y ∈ S',y ∈ S)->okDy P S' fr.fn o.op=true->x ∈ S'):Near P S fr tops (Frame.enter P x as .normal) (fr::tops)
  | back {t:Frame} {tops:List Frame} (v:Value) (hm:fr.mode = .returning):Near P S fr (t::tops) (t.finish v) tops
  | up {t:Frame} {tops:List Frame} (ch:List PanicEntry) (hm:fr.mode = .panicking ch):Near P S fr (t::tops) (t.raise ch) tops
section
variable {ok:Op->Bool} {S:List FuncId} {fr:Frame}
theorem Ord.todo (h:Ord ok S fr) {k:List Item} (hk:∀ i ∈ k,okItem ok i=true):Ord ok S { fr with todo:=k }:=⟨h.fn,hk,h.defers,h.kind,h.round⟩
theorem exitTo_sub {id:Nat}:∀ {k k':List Item},exitTo id k=some k'->∀ i ∈ k',i ∈ k
  | [],_,h=>by cases h
  | x::k,k',h=>by
    intro i hi
    have rest:∀ {k'},exitTo id k=some k'->∀ i ∈ k',i ∈ x::k:=fun h' i hi=>.tail _ (exitTo_sub h' i hi)
    cases x
    case inBlock id' =>
      unfold exitTo at h
      split at h
      · cases h;exact .tail _ hi
      · exact rest h i hi
    all_goals exact rest h i hi
theorem Ord.finish (h:Ord ok S fr) (v:Value):Ord ok S (fr.finish v):=by
  unfold Frame.finish
  split
  · rename_i ops i rest k e
    refine ⟨h.fn,?_,h.defers,h.kind,h.round⟩
    intro x hx
    have hi:=h.items
    rw [e] at hi
    rcases List.mem_cons.1 hx with rfl | hx
    · exact hi (.inRegion ops (i::rest)) (.head _)
    · exact hi x (.tail _ hx)
  all_goals first
    | exact h
    | (rename_i e
       have hi:=h.items
       rw [e] at hi
       have:=hi _ (.head _)
       simp [okItem] at this)
theorem ctl (h:Ord ok S fr) (hm:fr.mode = .run)
    (hd:∀ id ops k,fr.todo ≠ .code (.region id ops true)::k)
    (ho:∀ ops i r k,fr.todo = .inRegion ops (i::r)::k->((ops[i]?).map (Region.wanted · (yielded ops fr.tmps))).getD false=false) :
    (∃ fr',Ord ok S fr'/\Move fr fr'/\(fr'.mode = .run\/fr'.mode = .returning)/\∀ P main cs w,stepG P main (Gr fr cs) w = .go (Gr fr' cs) w #[])\/(∀ P main cs w,∃ o w' es,stepG P main (Gr fr cs) w = .ended o w' es):=by
  obtain ⟨fn,tmps,todo,defers,mode,kind,round⟩:=fr
  simp only at hm
  subst hm
  have hr:round=none:=h.round
  subst hr
  have hi:=h.items
  simp only at hd ho hi
  have to:∀ k,(∀ i ∈ k,okItem ok i=true)->Ord ok S ⟨fn,tmps,k,defers,.run,kind,none⟩:=fun k hk=>⟨h.fn,hk,h.defers,h.kind,rfl⟩
  have ret:Ord ok S ⟨fn,tmps,todo,defers,.returning,kind,none⟩:=⟨h.fn,hi,h.defers,h.kind,rfl⟩
  cases todo with
  | nil=>exact .inl ⟨_,ret,.ret rfl (.inl rfl),.inr rfl,fun _ _ _ _=>rfl⟩
  | cons x k =>
    have hx:=hi x (.head _)
    have hk:∀ i ∈ k,okItem ok i=true:=fun i q=>hi i (.tail _ q)
    have two:∀ a b,okItem ok a=true->okItem ok b=true->∀ i ∈ a::b::k,okItem ok i=true:=by
      intro a b ha hb i q
      rcases List.mem_cons.1 q with rfl | q
      · exact ha
      · rcases List.mem_cons.1 q with rfl | q
        · exact hb
        · exact hk i q
    have one:∀ a,okItem ok a=true->∀ i ∈ a::k,okItem ok i=true:=by
      intro a ha i q
      rcases List.mem_cons.1 q with rfl | q
      · exact ha
      · exact hk i q
    cases x with
    | inBlock id=>exact .inl ⟨_,to k hk,.to _ rfl rfl,.inl rfl,fun _ _ _ _=>rfl⟩
    | inScope c=>exact .inl ⟨_,to k hk,.to _ rfl rfl,.inl rfl,fun _ _ _ _=>rfl⟩
    | inLoop c=>exact .inl ⟨_,to _ (two (.code c) (.inLoop c) hx hx),.to _ rfl rfl,.inl rfl,fun _ _ _ _=>rfl⟩
    | inRegion ops l =>
      cases l with
      | nil=>exact .inl ⟨_,to k hk,.to _ rfl rfl,.inl rfl,fun _ _ _ _=>rfl⟩
      | cons i r =>
        have hw:=ho ops i r k rfl
        refine .inl ⟨_,h.finish undef,.fin _ rfl rfl,.inl ?_,fun P main cs w=>?_⟩
        · simp [Frame.finish]
        · simp [stepG,stepG.exec,hw]
    | inRangeFunc l=>cases hx
    | endRangeFunc l=>cases hx
    | beginRound=>cases hx
    | call=>cases hx
    | extern=>cases hx
    | code c =>
      cases c with
      | skip=>exact .inl ⟨_,to k hk,.to _ rfl rfl,.inl rfl,fun _ _ _ _=>rfl⟩
      | ret=>exact .inl ⟨_,ret,.ret rfl (.inr ⟨_,rfl⟩),.inr rfl,fun _ _ _ _=>rfl⟩
      | seq a b =>
        simp only [okItem,okCode,Bool.and_eq_true] at hx
        exact .inl ⟨_,to _ (two (.code a) (.code b) hx.1 hx.2),.to _ rfl rfl,.inl rfl,fun _ _ _ _=>rfl⟩
      | cond c a b =>
        simp only [okItem,okCode,Bool.and_eq_true] at hx
        cases hc:(⟨fn,tmps,.code (.cond c a b)::k,defers,.run,kind,none⟩:Frame).eval c with
        | bool v =>
          refine .inl ⟨_,to _ (one (.code (if v then a else b)) (by cases v;exact hx.2;exact hx.1)),.to _ rfl ⟨v,hc,rfl⟩,.inl rfl,fun P main cs w=>?_⟩
          simp [stepG,stepG.exec,hc]
        | _=>exact .inr (fun P main cs w=>by simp [stepG,stepG.exec,hc])
      | block id c=>exact .inl ⟨_,to _ (two (.code c) (.inBlock id) hx rfl),.to _ rfl rfl,.inl rfl,fun _ _ _ _=>rfl⟩
      | loop c=>exact .inl ⟨_,to _ (two (.code c) (.inLoop c) hx hx),.to _ rfl rfl,.inl rfl,fun _ _ _ _=>rfl⟩
      | scope c=>exact .inl ⟨_,to _ (two (.code c) (.inScope c) hx hx),.to _ rfl rfl,.inl rfl,fun _ _ _ _=>rfl⟩
      | exit id =>
        cases he:exitTo id k with
        | none=>exact .inr (fun P main cs w=>by simp [stepG,stepG.exec,he])
        | some k' =>
          refine .inl ⟨_,to k' (fun i q=>hk i (exitTo_sub he i q)),.to _ rfl he,.inl rfl,fun P main cs w=>?_⟩
          simp [stepG,stepG.exec,he]
      | region id ops d =>
        cases d with
        | true=>exact absurd rfl (hd id ops k)
        | false=>exact .inl ⟨_,to _ (one (.inRegion ops (List.range ops.size)) hx),.to _ rfl ⟨_,fun _=>rfl,rfl⟩,.inl rfl,fun _ _ _ _=>rfl⟩
      | _=>cases hx
end
end Go.Proofs.YteaieagkjepgiaaGreatDoor
/- . -/
namespace Go.Proofs.YteaieagkjepgiaaGreatDoor
set_option maxRecDepth 100000
open Go.Conc
def Quietly (es:Array Event):Prop:=∀ e ∈ es,Mm e
theorem seen_fold (q:Bool) (st:Bool × Array Event->Event->Bool × Array Event) (hst:∀ acc e,Mm e->st (q,acc) e=(q,if q && !e.sync then acc else acc.push e)):∀ (l:List Event) (acc:Array Event),(∀ e ∈ l,Mm e) ->
    l.foldl st (q,acc)=(q,l.foldl (init:=acc) fun a e=>if q && !e.sync then a else a.push e)
  | [],_,_=>rfl
  | e::l,acc,h=>by
    simp only [List.foldl_cons]
    rw [hst acc e (h e (.head _))]
    exact seen_fold q st hst l _ (fun x hx=>h x (.tail _ hx))
theorem seen_is {P:Program} {fn:FuncId} {es:Array Event} (h:Quietly es):seen P fn es=es.toList.foldl (init:=#[]) fun a e=>if (P.funcs[fn]?).any (·.norace) && !e.sync then a else a.push e:=by
  unfold seen
  dsimp only
  rw [<-Array.foldl_toList]
  refine congrArg Prod.snd (seen_fold _ _ (fun acc e he=>?_) es.toList #[] (fun e he=>h e (Array.mem_toList_iff.1 he)))
  dsimp only
  cases hloc:e.loc with
  | mark m =>
    have:=he.1 m hloc
    subst this
    rfl
  | _=>rfl
theorem fold_mem (q:Bool):∀ (l:List Event) (acc:Array Event) (e:Event),e ∈ l.foldl (init:=acc) (fun a e=>if q && !e.sync then a else a.push e)->e ∈ acc\/e ∈ l
  | [],_,_,h=>.inl h
  | x::l,acc,e,h=>by
    rcases fold_mem q l _ e h with h | h
    · dsimp only at h
      split at h
      · exact .inl h
      · rcases Array.mem_push.1 h with h | rfl
        · exact .inl h
        · exact .inr (.head _)
    · exact .inr (.tail _ h)
theorem seen_quiet {P:Program} {fn:FuncId} {es:Array Event} (h:Quietly es):Quietly (seen P fn es):=by
  intro e he
  rw [seen_is h] at he
  rcases fold_mem _ _ _ e he with q | q
  · simp at q
  · exact h e (Array.mem_toList_iff.1 q)
theorem seen_two {P P₁:Program} {fn:FuncId} {es:Array Event} (h:Quietly es) (hf:P₁.funcs[fn]?=P.funcs[fn]?):seen P₁ fn es=seen P fn es:=by
  rw [seen_is h,seen_is h,hf]
def Both (y:Option Nat) (ok:Op->Bool) (S:List FuncId) (P P₁:Program) (main main₁:Bool) (fr:Frame) (tops cs cs₁:List Frame) (w w₁:World):Prop:=
  (∃ fr' tops' w' k es,stepG P main (Gr fr (tops++cs)) w = .go (Gr fr' (tops'++cs)) w' es/\Near P S fr tops fr' tops'/\Ord ok S fr'/\(∀ t ∈ tops',Ord ok S t/\t.mode = .run)/\w'.tape=w.tape/\w'.drawn=w.drawn+k/\Quietly es/\Kc w w' /\
    (Agree k w w₁->∃ w₁',stepG P₁ main₁ (Gr fr (tops++cs₁)) w₁ = .go (Gr fr' (tops'++cs₁)) w₁' es/\Sim y w' w₁'/\w₁'.tape=w₁.tape/\w₁'.drawn=w₁.drawn+k/\Kc w₁ w₁')) \/
  (∃ o w' es,stepG P main (Gr fr (tops++cs)) w = .ended o w' es)
section
variable {y:Option Nat} {ok:Op->Bool} {S:List FuncId} {T:Tables} {f g:Array Func} {fr:Frame} {tops cs cs₁:List Frame} {w w₁:World} {main main₁:Bool}
theorem Quietly.nil:Quietly #[]:=fun _ h=>by simp at h
theorem both_draw (h:Ord ok S fr) (hm:fr.mode = .run) {id:Nat} {ops:Array Oper} {k:List Item} (ht:fr.todo = .code (.region id ops true)::k) (hS:Sim y w w₁) (htops:∀ t ∈ tops,Ord ok S t/\t.mode = .run) :
    Both y ok S ⟨T,f⟩ ⟨T,g⟩ main main₁ fr tops cs cs₁ w w₁:=by
  have step:∀ (main:Bool) (F:Array Func) (c:List Frame) (v:World),stepG ⟨T,F⟩ main (Gr fr c) v = .go (Gr { fr with todo:=.inRegion ops (Region.schedule ((⟨T,f⟩:Program).follows .mixedOrders) ops (v.tape v.drawn (.order fr.fn id)))::k } c) { v with drawn:=v.drawn+1 } #[]:=by
    intro main F c v
    obtain ⟨fn,tmps,todo,defers,mode,kind,round⟩:=fr
    simp only at hm ht
    subst hm ht
    first | (simp [stepG,stepG.exec,choose,Sem.run,Question.forced,Question.cut];done) | (simp [stepG,stepG.exec,choose,Sem.run,Question.forced,Question.cut];rfl)
  refine .inl ⟨_,tops,_,1,#[],step _ f (tops++cs) w,.move (.to _ hm (by unfold Ctl;rw [ht];exact ⟨_,(fun h=>nomatch h),rfl⟩)),?_,htops,rfl,rfl,Quietly.nil,Kc.draw _ _,fun A=>?_⟩
  · refine h.todo (fun i hi=>?_)
    have hi':=h.items
    rw [ht] at hi'
    rcases List.mem_cons.1 hi with rfl | hi
    · exact hi' (.code (.region id ops true)) (.head _)
    · exact hi' i (.tail _ hi)
  · refine ⟨{ w₁ with drawn:=w₁.drawn+1 },?_,hS.draw _ _,rfl,rfl,Kc.draw _ _⟩
    rw [step _ g (tops++cs₁) w₁]
    have:=A 0 (by omega) (.order fr.fn id)
    rw [Nat.add_zero,Nat.add_zero] at this
    rw [this]
theorem both_ctl (h:Ord ok S fr) (hm:fr.mode = .run) (hd:∀ id ops k,fr.todo ≠ .code (.region id ops true)::k)
    (ho:∀ ops i r k,fr.todo = .inRegion ops (i::r)::k->((ops[i]?).map (Region.wanted · (yielded ops fr.tmps))).getD false=false) (hS:Sim y w w₁) (htops:∀ t ∈ tops,Ord ok S t/\t.mode = .run) :
    Both y ok S ⟨T,f⟩ ⟨T,g⟩ main main₁ fr tops cs cs₁ w w₁:=by
  rcases ctl h hm hd ho with ⟨fr',h',mv,_,q⟩ | q
  · exact .inl ⟨fr',tops,w,0,#[],q _ _ _ _,.move mv,h',htops,rfl,rfl,Quietly.nil,Kc.refl _,fun _=>⟨w₁,q _ _ _ _,hS,rfl,rfl,Kc.refl _⟩⟩
  · exact .inr (q _ _ _ _)
theorem both_panic (h:Ord ok S fr) (hK:Known f g fr.fn) {ch:List PanicEntry} (hm:fr.mode = .panicking ch) (hS:Sim y w w₁) (htops:∀ t ∈ tops,Ord ok S t/\t.mode = .run) (hne:tops ≠ []) :
    Both y ok S ⟨T,f⟩ ⟨T,g⟩ main main₁ fr tops cs cs₁ w w₁:=by
  cases tops with
  | nil=>exact absurd rfl hne
  | cons c rest =>
    obtain ⟨k1,fn,k2,_⟩:=hK
    have hc:=htops c (.head _)
    have step:∀ (main:Bool) (F:Array Func) (x:List Frame) (v:World),F[fr.fn]?=some fn->stepG ⟨T,F⟩ main (Gr fr (c::rest++x)) v = .go (Gr (c.raise ch) (rest++x)) v #[]:=by
      intro main F x v hF
      have hdf:=h.defers
      obtain ⟨fn',tmps,todo,defers,mode,kind,round⟩:=fr
      simp only at hm hdf hF
      subst hm hdf
      simp [stepG,unwind,Frame.catches,hF]
    refine .inl ⟨c.raise ch,rest,w,0,#[],step _ f cs w k2,.up ch hm,?_,fun t ht=>htops t (.tail _ ht),rfl,rfl,Quietly.nil,Kc.refl _,fun _=>⟨w₁,step _ g cs₁ w₁ (k1.trans k2),hS,rfl,rfl,Kc.refl _⟩⟩
    unfold Frame.raise
    split <;> exact ⟨hc.1.fn,hc.1.items,hc.1.defers,hc.1.kind,hc.1.round⟩
end
end Go.Proofs.YteaieagkjepgiaaGreatDoor
/- . -/
namespace Go.Proofs.YteaieagkjepgiaaGreatDoor
set_option maxRecDepth 100000
open Go.Conc
section
variable {z:Option Nat} {ok:Op->Bool} {S:List FuncId} {T:Tables} {f g:Array Func} {fr:Frame} {tops cs cs₁:List Frame} {w w₁:World} {main main₁:Bool}
theorem t_results (fn:Func) (tmps:Array Value):Tm T f g (results fn tmps):=by
  unfold results
  refine tq (t_mapMA (fun r=>?_)) (fun _=>trivial)
  split
  · exact trivial
  · exact tq (t_asAddr _) (fun _=>t_loadVar _ _)
theorem quiet_of {es:Array Event} (h:Mild #[] es):Quietly es:=by
  intro e he
  rcases h e he with q | q
  · simp at q
  · exact q
theorem both_return (h:Ord ok S fr) (hK:Known f g fr.fn) (hm:fr.mode = .returning) (hS:Sim z w w₁) (htops:∀ t ∈ tops,Ord ok S t/\t.mode = .run) (hne:tops ≠ []) :
    Both z ok S ⟨T,f⟩ ⟨T,g⟩ main main₁ fr tops cs cs₁ w w₁:=by
  cases tops with
  | nil=>exact absurd rfl hne
  | cons c rest =>
    obtain ⟨k1,fn,k2,_⟩:=hK
    have hc:=htops c (.head _)
    have step:∀ (main:Bool) (F:Array Func) (x:List Frame) (v:World),F[fr.fn]?=some fn->stepG ⟨T,F⟩ main (Gr fr (c::rest++x)) v=GStep.after (seen ⟨T,F⟩ fr.fn ((results fn fr.tmps).runT ⟨T,F⟩ v #[]).2) (match ((results fn fr.tmps).runT ⟨T,F⟩ v #[]).1 with
        | .ok a v'=>.go (Gr (c.finish a) (rest++x)) v'
        | .halt (.stuck s) v'=>.ended (.stuck s (fr.pos ⟨T,F⟩)) v'
        | .halt _ v'=>.ended (.stuck "return: the result variables cannot be read" (fr.pos ⟨T,F⟩)) v'):=by
      intro main F x v hF
      have hdf:=h.defers
      have hkd:=h.kind
      obtain ⟨fn',tmps,todo,defers,mode,kind,round⟩:=fr
      simp only at hm hdf hF hkd
      subst hm hdf hkd
      simp only [stepG,unwind,hF,List.cons_append,doReturn]
      rfl
    rcases tame_run (results fn fr.tmps) w w₁ #[] (t_results (T:=T) (f:=f) (g:=g) fn fr.tmps) hS with ⟨a,w',k,es',e,_,t,d,m,kc,x⟩ | ⟨a,w',k,es',e,q,t,d,m,kc,x⟩
    · have hq:=quiet_of m
      refine .inl ⟨c.finish a,rest,w',k,seen ⟨T,f⟩ fr.fn es',?_,.back a hm,hc.1.finish a,fun t ht=>htops t (.tail _ ht),t,d,seen_quiet hq,kc,fun A=>?_⟩
      · rw [step _ f cs w k2,e];simp [GStep.after]
      · obtain ⟨w₁',e',s',t',d',kc'⟩:=x A
        refine ⟨w₁',?_,s',t',d',kc'⟩
        rw [step _ g cs₁ w₁ (k1.trans k2),e',seen_two (P:=⟨T,f⟩) hq k1];simp [GStep.after]
    · refine .inr ?_
      rw [step _ f cs w k2,e]
      cases a <;> exact ⟨_,_,_,rfl⟩
theorem step_op {P:Program} {x:List Frame} {v:World} (hr:fr.roundOf=none) (hm:fr.mode = .run) {ops:Array Oper} {i:Nat} {r:List Nat} {k:List Item} {o:Oper} (ht:fr.todo = .inRegion ops (i::r)::k) (ho:ops[i]?=some o)
    (hw:Region.wanted o (yielded ops fr.tmps)=true):stepG P main (Gr fr x) v=stepG.apply P true fr x none (execOp fr.eval o) v:=by
  obtain ⟨fn',tmps,todo,defers,mode,kind,round⟩:=fr
  simp only at hr hm ht hw
  subst hr hm ht
  simp [stepG,stepG.exec,stepG.oper,Frame.oper?,ho,hw]
theorem early_go {F:Array Func} {x:List Frame} {v:World} {b:Nat} (hst:(⟨T,F⟩:Program).stepOf b=none) :
    (((⟨T,F⟩:Program).follows .staticDataAhead=false/\∃ c e,v.heap[b]?=some (.pending c e)/\early ⟨T,F⟩ fr x none b v = .go (Gr fr x) { v with heap:=v.heap.setIfInBounds b (.cells c e) } #[])\/∃ o w' es,early ⟨T,F⟩ fr x none b v = .ended o w' es):=by
  unfold early
  dsimp only
  cases hf:(⟨T,F⟩:Program).follows .staticDataAhead with
  | true =>
    right
    simp only [Bool.not_true,Bool.false_eq_true,if_false,hst]
    exact ⟨_,_,_,rfl⟩
  | false =>
    simp only [Bool.not_false,if_true]
    split
    · rename_i c e h
      exact .inl ⟨by first | trivial | rfl,c,e,h,rfl⟩
    · exact .inr ⟨_,_,_,rfl⟩
def Fine (ok:Op->Bool) (fs gs:Array Func) (x:FuncId):Prop:=Known fs gs x/\∀ fn,fs[x]?=some fn->okCode ok (fn.body.getD .skip)=true
theorem enter_two {x:FuncId} {as:Array Value} {kd:CallKind} (h:g[x]?=f[x]?):Frame.enter ⟨T,g⟩ x as kd=Frame.enter ⟨T,f⟩ x as kd:=by
  unfold Frame.enter
  dsimp only
  rw [h]
theorem enter_ord {x:FuncId} {as:Array Value} (hx:x ∈ S) (h:Fine ok f g x):Ord ok S (Frame.enter ⟨T,f⟩ x as .normal):=by
  obtain ⟨⟨_,fn,k2,k3,_⟩,hc⟩:=h
  have:=hc fn k2
  refine ⟨hx,?_,rfl,rfl,rfl⟩
  unfold Frame.enter
  dsimp only
  rw [k2]
  cases hb:fn.body with
  | none=>rw [hb] at k3;cases k3
  | some c =>
    rw [hb] at this
    intro i hi
    simp only [Option.bind_some,hb,Option.getD_some,List.mem_singleton] at hi
    subst hi
    exact this
theorem both_op (h:Ord ok S fr) (hm:fr.mode = .run) {ops:Array Oper} {i:Nat} {r:List Nat} {k:List Item} {o:Oper} (ht:fr.todo = .inRegion ops (i::r)::k) (ho:ops[i]?=some o)
    (hw:Region.wanted o (yielded ops fr.tmps)=true) (hok:okDy ⟨T,f⟩ S fr.fn o.op=true) (hG:Gv fr.fn fr.eval) (hF:∀ x ∈ S,Fine ok f g x) (hst:∀ b,(⟨T,f⟩:Program).stepOf b=none) (hst₁:∀ b,(⟨T,g⟩:Program).stepOf b=none)
    (hS:Sim z w w₁) (htops:∀ t ∈ tops,Ord ok S t/\t.mode = .run):Both z ok S ⟨T,f⟩ ⟨T,g⟩ main main₁ fr tops cs cs₁ w w₁:=by
  have hK:=(hF fr.fn h.fn).1
  have e0:∀ (main:Bool) (F:Array Func) (x:List Frame) (v:World),stepG ⟨T,F⟩ main (Gr fr x) v=stepG.apply ⟨T,F⟩ true fr x none (execOp fr.eval o) v:=fun _ F x v=>step_op h.round hm ht ho hw
  have hkd:=h.kind
  unfold Both
  simp only [e0]
  have run:=tame_run (execOp fr.eval o) w w₁ #[] (okDy_tame (T:=T) (f:=f) (g:=g) (S:=S) (fun _=>rfl) hok (fun x hx=>(hF x hx).1) hG) hS
  generalize hs:execOp fr.eval o=s at run ⊢
  have kd:(match fr.todo with | .call _ true _ _::_=>CallKind.wrapped | _=>.normal) = .normal:=by rw [ht]
  rcases run with ⟨a,w',k',es',e,q,t,d,m,kc,x⟩ | ⟨a,w',k',es',e,q,t,d,m,kc,x⟩
  · have hq:=quiet_of m
    cases a with
    | value v =>
      refine .inl ⟨fr.finish v,tops,w',k',seen ⟨T,f⟩ fr.fn es',?_,.move (.fin v hm ht),h.finish v,htops,t,d,seen_quiet hq,kc,fun A=>?_⟩
      · simp [-Sem.runT_eq,stepG.apply,e,GStep.after,hkd]
      · obtain ⟨w₁',e',s',t',d',kc'⟩:=x A
        refine ⟨w₁',?_,s',t',d',kc'⟩
        simp [-Sem.runT_eq,stepG.apply,e',GStep.after,hkd,seen_two (P:=⟨T,f⟩) (P₁:=⟨T,g⟩) hq hK.1]
    | skip =>
      refine .inl ⟨fr.finish undef,tops,w',k',seen ⟨T,f⟩ fr.fn es',?_,.move (.fin undef hm ht),h.finish undef,htops,t,d,seen_quiet hq,kc,fun A=>?_⟩
      · simp [-Sem.runT_eq,stepG.apply,e,GStep.after,hkd]
      · obtain ⟨w₁',e',s',t',d',kc'⟩:=x A
        refine ⟨w₁',?_,s',t',d',kc'⟩
        simp [-Sem.runT_eq,stepG.apply,e',GStep.after,hkd,seen_two (P:=⟨T,f⟩) (P₁:=⟨T,g⟩) hq hK.1]
    | enter y as =>
      have hy:y ∈ S:=q
      refine .inl ⟨Frame.enter ⟨T,f⟩ y as .normal,fr::tops,w',k',seen ⟨T,f⟩ fr.fn es',?_,(.enter _ _ hm ht ho hok ⟨hy,fun S' hS' hk'=>by
        rcases tame_run (execOp fr.eval o) w w₁ #[] (okDy_tame (T:=T) (f:=f) (g:=g) (S:=S') (fun _=>rfl) hk' (fun x hx=>(hF x (hS' x hx)).1) hG) hS with ⟨a,_,_,_,e',q',_⟩ | ⟨a,_,_,_,e',_⟩
        · rw [hs,e] at e'
          cases e'
          exact q'
        · rw [hs,e] at e'
          cases e'⟩),enter_ord hy (hF y hy),?_,t,d,seen_quiet hq,kc,fun A=>?_⟩
      · simp [-Sem.runT_eq,stepG.apply,e,GStep.after,hkd,ht]
      · intro u hu
        rcases List.mem_cons.1 hu with rfl | hu
        · exact ⟨h,hm⟩
        · exact htops u hu
      · obtain ⟨w₁',e',s',t',d',kc'⟩:=x A
        refine ⟨w₁',?_,s',t',d',kc'⟩
        simp [-Sem.runT_eq,stepG.apply,e',GStep.after,hkd,ht,seen_two (P:=⟨T,f⟩) (P₁:=⟨T,g⟩) hq hK.1,enter_two (hF y hy).1.1]
    | _=>exact q.elim
  · have hq:=quiet_of m
    have raise:∀ ch,Ord ok S (fr.raise ch):=by
      intro ch
      unfold Frame.raise
      split <;> exact ⟨h.fn,h.items,h.defers,h.kind,h.round⟩
    cases a with
    | panic v =>
      refine .inl ⟨fr.raise [{ v,recovered:=false }],tops,w',k',seen ⟨T,f⟩ fr.fn es',?_,.move (.raise _),raise _,htops,t,d,seen_quiet hq,kc,fun A=>?_⟩
      · simp [-Sem.runT_eq,stepG.apply,e,GStep.after,hkd]
      · obtain ⟨w₁',e',s',t',d',kc'⟩:=x A
        refine ⟨w₁',?_,s',t',d',kc'⟩
        simp [-Sem.runT_eq,stepG.apply,e',GStep.after,hkd,seen_two (P:=⟨T,f⟩) (P₁:=⟨T,g⟩) hq hK.1]
    | stuck s =>
      refine .inr ?_
      simp [-Sem.runT_eq,stepG.apply,e,GStep.after,hkd]
    | unsupported u =>
      by_cases hu:∃ b,u = .initOrder b
      · obtain ⟨b,rfl⟩:=hu
        rcases early_go (T:=T) (fr:=fr) (F:=f) (x:=tops++cs) (v:=w') (hst b) with ⟨hfl,c,e1,hb,hg⟩ | ⟨o',w'',es'',hg⟩
        · refine .inl ⟨fr,tops,{ w' with heap:=w'.heap.setIfInBounds b (.cells c e1) },k',seen ⟨T,f⟩ fr.fn #[],?_,.move .same,h,htops,t,d,seen_quiet Quietly.nil,kc.trans (Kc.put rfl ⟨_,hb,rfl⟩),fun A=>?_⟩
          · simp [-Sem.runT_eq,stepG.apply,e,GStep.after,hkd,hg]
          · obtain ⟨w₁',e',s',t',d',kc'⟩:=x A
            have hb1:w₁'.heap[b]?=some (.pending c e1):=by
              rcases s'.block b with q | ⟨_,⟨_,_,_,_,_,_,q⟩,_⟩
              · exact q.trans hb
              · rw [hb] at q;cases q
            rcases early_go (T:=T) (fr:=fr) (F:=g) (x:=tops++cs₁) (v:=w₁') (hst₁ b) with ⟨_,c',e1',hb',hg'⟩ | ⟨o',w'',es'',hg'⟩
            · rw [hb1] at hb'
              cases hb'
              refine ⟨{ w₁' with heap:=w₁'.heap.setIfInBounds b (.cells c e1) },?_,s'.put _ _,t',d',kc'.trans (Kc.put rfl ⟨_,hb1,rfl⟩)⟩
              simp [-Sem.runT_eq,stepG.apply,e',GStep.after,hkd,hg',seen_two (P:=⟨T,f⟩) (P₁:=⟨T,g⟩) Quietly.nil hK.1]
            · exfalso
              unfold early at hg'
              have hfl':(⟨T,g⟩:Program).follows .staticDataAhead=false:=hfl
              simp [hfl',hb1] at hg'
        · refine .inr ?_
          simp [-Sem.runT_eq,stepG.apply,e,GStep.after,hkd,hg]
      · refine .inr ?_
        cases u <;> first | (exact absurd ⟨_,rfl⟩ hu) | (simp [-Sem.runT_eq,stepG.apply,e,GStep.after,hkd];done)
    | _=>exact q.elim
end
end Go.Proofs.YteaieagkjepgiaaGreatDoor
/- . -/
namespace Go.Proofs.YteaieagkjepgiaaGreatDoor
set_option maxRecDepth 100000
open Go.Conc
section
variable {z:Option Nat} {ok:Op->Bool} {S:List FuncId} {T:Tables} {f g:Array Func} {fr:Frame} {tops cs cs₁:List Frame} {w w₁:World} {main main₁:Bool}
def Spec (P:Program) (S:List FuncId) (fr:Frame) (tops:List Frame):Prop:=
  (tops=[]/\fr.mode ≠ .run)\/(fr.mode = .run/\∃ ops i r k o,fr.todo = .inRegion ops (i::r)::k/\ops[i]?=some o/\Region.wanted o (yielded ops fr.tmps)=true/\okDy P S fr.fn o.op=false)
theorem both_step (h:Ord ok S fr) (htops:∀ t ∈ tops,Ord ok S t/\t.mode = .run) (hF:∀ x ∈ S,Fine ok f g x) (hst:∀ b,(⟨T,f⟩:Program).stepOf b=none) (hst₁:∀ b,(⟨T,g⟩:Program).stepOf b=none)
    (hS:Sim z w w₁) (hsp:¬ Spec ⟨T,f⟩ S fr tops) (hG:Gv fr.fn fr.eval):Both z ok S ⟨T,f⟩ ⟨T,g⟩ main main₁ fr tops cs cs₁ w w₁:=by
  have hK:=(hF fr.fn h.fn).1
  cases hm:fr.mode with
  | returning=>exact both_return h hK hm hS htops (fun e=>hsp (.inl ⟨e,by rw [hm];simp⟩))
  | panicking ch=>exact both_panic h hK hm hS htops (fun e=>hsp (.inl ⟨e,by rw [hm];simp⟩))
  | run =>
    by_cases hd:∃ id ops k,fr.todo = .code (.region id ops true)::k
    · obtain ⟨id,ops,k,hd⟩:=hd
      exact both_draw h hm hd hS htops
    · by_cases ho:∃ ops i r k o,fr.todo = .inRegion ops (i::r)::k/\ops[i]?=some o/\Region.wanted o (yielded ops fr.tmps)=true
      · obtain ⟨ops,i,r,k,o,h1,h2,h3⟩:=ho
        cases h4:okDy ⟨T,f⟩ S fr.fn o.op with
        | false=>exact absurd (.inr ⟨hm,ops,i,r,k,o,h1,h2,h3,h4⟩) hsp
        | true=>exact both_op h hm h1 h2 h3 h4 hG hF hst hst₁ hS htops
      · refine both_ctl h hm (fun id ops k e=>hd ⟨id,ops,k,e⟩) (fun ops i r k e=>?_) hS htops
        cases h2:ops[i]? with
        | none=>rfl
        | some o =>
          cases h3:Region.wanted o (yielded ops fr.tmps) with
          | false=>simp [h3]
          | true=>exact absurd ⟨ops,i,r,k,o,e,h2,h3⟩ ho
def Rt (w:World) (τ:Nat->Question->Nat):World:={ w with tape:=τ }
def Ext (w:World) (τ:Nat->Question->Nat):Prop:=∀ i,i<w.drawn->τ i=w.tape i
def sent (P:Program):Frame:={ fn:=P.funcs.size,tmps:=#[undef],todo:=[.call { target:=.nil,args:=#[] } false "fmt's door" #[]],defers:=[],mode:=.run,kind:=.normal }
theorem door_none:(Extern.next "fmt's door").isNone=true:=by kernel_rfl
theorem sent_return (v:Value) (w:World):∃ o w' es,stepG ⟨T,f⟩ true (Gr ((sent ⟨T,f⟩).finish v) []) w = .ended o w' es:=by
  have h:Extern.next "fmt's door" = none:=by
    have:=door_none
    cases e:Extern.next "fmt's door" with
    | none=>rfl
    | some x=>rw [e] at this;cases this
  simp [stepG,stepG.exec,sent,Frame.finish,h]
theorem sent_panic (ch:List PanicEntry) (w:World):∃ o w' es,stepG ⟨T,f⟩ true (Gr ((sent ⟨T,f⟩).raise ch) []) w = .ended o w' es:=by
  have h:(f[f.size]?:Option Func)=none:=by simp
  simp [stepG,sent,Frame.raise,unwind,Frame.catches,h]
def Leaves (P:Program) (fr:Frame):Prop:=fr.mode = .returning/\fr.defers=[]/\fr.kind = .normal/\∃ fn,P.funcs[fr.fn]?=some fn
def Tm2 (P:Program) (Fin:Frame->World->Prop) (fr:Frame) (tops:List Frame) (w:World):Prop:=
  ∀ τ,Ext w τ->∃ n fr' w',runN P n (lone fr (tops++[sent P]) (Rt w τ)) = .next (lone fr' [sent P] w')/\Leaves P fr'/\Fin fr' w'
def Leap (P:Program) (fr:Frame) (tops:List Frame) (w:World) (fr':Frame) (tops':List Frame) (w':World):Prop:=
  w'.tape=w.tape/\w'.drawn=w.drawn/\∀ τ,Ext w τ->∃ m,runN P (m+1) (lone fr (tops++[sent P]) (Rt w τ)) = .next (lone fr' (tops'++[sent P]) (Rt w' τ))
inductive Tree (P:Program) (S:List FuncId) (Jump:Frame->List Frame->World->Frame->List Frame->World->Prop):Frame->List Frame->World->Prop
  | fin {fr:Frame} {w:World} (h:fr.mode ≠ .run):Tree P S Jump fr [] w
  | step {fr:Frame} {tops:List Frame} {w:World} (N:(τ:Nat->Question->Nat)->Ext w τ->Frame × List Frame × World × Array Event)
      (he:∀ τ ht,stepG P true (Gr fr (tops++[sent P])) (Rt w τ) = .go (Gr (N τ ht).1 ((N τ ht).2.1++[sent P])) (N τ ht).2.2.1 (N τ ht).2.2.2) (hs:∀ τ ht,Tree P S Jump (N τ ht).1 (N τ ht).2.1 (N τ ht).2.2.1)
      (hsp:¬ Spec P S fr tops):Tree P S Jump fr tops w
  | jump {fr fr':Frame} {tops tops':List Frame} {w w':World} (hj:Jump fr tops w fr' tops' w') (hs:Tree P S Jump fr' tops' w'):Tree P S Jump fr tops w
theorem Tree.of {P:Program} {S:List FuncId} {Jump:Frame->List Frame->World->Frame->List Frame->World->Prop} {fr:Frame} {tops:List Frame} {w:World} (hsp:¬ Spec P S fr tops)
    (h:∀ τ,Ext w τ->∃ fr' tops' w' es,stepG P true (Gr fr (tops++[sent P])) (Rt w τ) = .go (Gr fr' (tops'++[sent P])) w' es/\Tree P S Jump fr' tops' w'):Tree P S Jump fr tops w:=by
  have h':∀ τ,Ext w τ->∃ p:Frame × List Frame × World × Array Event,stepG P true (Gr fr (tops++[sent P])) (Rt w τ) = .go (Gr p.1 (p.2.1++[sent P])) p.2.2.1 p.2.2.2/\Tree P S Jump p.1 p.2.1 p.2.2.1:=by
    intro τ ht
    obtain ⟨a,b,d,e,q⟩:=h τ ht
    exact ⟨(a,b,d,e),q⟩
  exact .step (fun τ ht=>Classical.choose (h' τ ht)) (fun τ ht=>(Classical.choose_spec (h' τ ht)).1) (fun τ ht=>(Classical.choose_spec (h' τ ht)).2) hsp
theorem use (h:Ord ok S fr) (htops:∀ t ∈ tops,Ord ok S t/\t.mode = .run) (hF:∀ x ∈ S,Fine ok f f x) (hst:∀ b,(⟨T,f⟩:Program).stepOf b=none) (hsp:¬ Spec ⟨T,f⟩ S fr tops) (hG:Gv fr.fn fr.eval) (c:List Frame) (τ:Nat->Question->Nat) :
    (∃ fr' tops' w' es,stepG ⟨T,f⟩ true (Gr fr (tops++c)) (Rt w τ) = .go (Gr fr' (tops'++c)) w' es/\Near ⟨T,f⟩ S fr tops fr' tops'/\Ord ok S fr'/\(∀ t ∈ tops',Ord ok S t/\t.mode = .run)/\w'.tape=τ/\w.drawn<=w'.drawn/\Kc w w' /\
      ∀ τ',(∀ i,i<w'.drawn->τ' i=τ i)->stepG ⟨T,f⟩ true (Gr fr (tops++c)) (Rt w τ') = .go (Gr fr' (tops'++c)) (Rt w' τ') es) \/
    (∃ o w' es,stepG ⟨T,f⟩ true (Gr fr (tops++c)) (Rt w τ) = .ended o w' es):=by
  have key:=fun w₁ (hS:Sim none (Rt w τ) w₁)=>both_step (main:=true) (main₁:=true) (cs:=c) (cs₁:=c) h htops hF hst hst hS hsp hG
  rcases key (Rt w τ) (Sim.refl _) with ⟨fr',tops',w',k,es,e,nr,h1,h2,t,d,_,kc,_⟩ | q
  · refine .inl ⟨fr',tops',w',es,e,nr,h1,h2,t,by rw [d];exact Nat.le_add_right _ _,kc,fun τ' ht=>?_⟩
    rcases key (Rt w τ') ⟨rfl,rfl,rfl,fun _=>.inl rfl⟩ with ⟨fr'',tops'',w'',k',es',e',_,_,_,t',d',_,_,x⟩ | ⟨o,w'',es',e'⟩
    · rw [e] at e'
      injection e' with q1 q2 q3
      injection q1 with q4 q5
      have q6:=List.append_cancel_right q5
      subst q4 q6 q2 q3
      have hk:k'=k:=by have:=d.symm.trans d';omega
      subst hk
      obtain ⟨w₁',e1,s1,t1,d1,_⟩:=x (fun i hi q=>by
        show τ' (w.drawn+i) q=τ (w.drawn+i) q
        rw [ht (w.drawn+i) (by rw [d];show w.drawn+i<w.drawn+k';omega)])
      rw [e1]
      have hw:w₁'=Rt w' τ':=by
        obtain ⟨hp,tp,dr,os,out⟩:=w₁'
        have a1:=s1.heap
        have a2:=s1.os
        have a3:=s1.output
        simp only at a1 a2 a3 t1 d1
        subst a1 a2 a3
        have:dr=w'.drawn:=by rw [d1,d];rfl
        subst this
        have:tp=τ':=t1
        subst this
        rfl
      rw [hw]
    · rw [e] at e';cases e'
  · exact .inr q
theorem lone_step {P:Program} {fr fr':Frame} {c c':List Frame} {w w':World} {es:Array Event} (h:stepG P true (Gr fr c) w = .go (Gr fr' c') w' es):step P (lone fr c w) = .next (lone fr' c' w'):=
  step_lone_go (by rw [h];rfl)
theorem lone_ended {P:Program} {fr:Frame} {c:List Frame} {w w':World} {o:Outcome} {es:Array Event} (h:stepG P true (Gr fr c) w = .ended o w' es):step P (lone fr c w) = .ended o w':=
  step_lone_ended (by rw [h];rfl)
theorem after_end {fr' x:Frame} {tops':List Frame} {w' w'':World} (h:Leaves ⟨T,f⟩ fr') (m:Nat):runN ⟨T,f⟩ (m+1) (lone fr' [sent ⟨T,f⟩] w') ≠ .next (lone x (tops'++[sent ⟨T,f⟩]) w''):=by
  obtain ⟨hmd,hdf,hkd,fn,hfn⟩:=h
  have no:∀ (n:Nat) (v:World) (y:Frame),(∃ o w'' es,stepG ⟨T,f⟩ true (Gr y []) v = .ended o w'' es)->runN ⟨T,f⟩ n (lone y [] v) ≠ .next (lone x (tops'++[sent ⟨T,f⟩]) w''):=by
    intro n v y hy e
    cases n with
    | zero =>
      simp only [runN,lone,Stepped.next.injEq,Machine.mk.injEq] at e
      have:=e.2.1
      simp at this
    | succ n =>
      obtain ⟨o,w3,es,hs⟩:=hy
      simp only [runN,lone_ended hs] at e
      cases e
  intro e
  simp only [runN] at e
  have hs:stepG ⟨T,f⟩ true (Gr fr' [sent ⟨T,f⟩]) w'=GStep.after (seen ⟨T,f⟩ fr'.fn ((results fn fr'.tmps).runT ⟨T,f⟩ w' #[]).2) (match ((results fn fr'.tmps).runT ⟨T,f⟩ w' #[]).1 with
      | .ok a v'=>.go (Gr ((sent ⟨T,f⟩).finish a) []) v'
      | .halt (.stuck s) v'=>.ended (.stuck s (fr'.pos ⟨T,f⟩)) v'
      | .halt _ v'=>.ended (.stuck "return: the result variables cannot be read" (fr'.pos ⟨T,f⟩)) v'):=by
    obtain ⟨fn',tmps,todo,defers,mode,kind,round⟩:=fr'
    simp only at hmd hdf hfn hkd
    subst hmd hdf hkd
    simp only [stepG,unwind,hfn,doReturn]
    rfl
  cases hr:((results fn fr'.tmps).runT ⟨T,f⟩ w' #[]).1 with
  | ok a v' =>
    rw [hr] at hs
    have hs':stepG ⟨T,f⟩ true (Gr fr' [sent ⟨T,f⟩]) w' = .go (Gr ((sent ⟨T,f⟩).finish a) []) v' (seen ⟨T,f⟩ fr'.fn ((results fn fr'.tmps).runT ⟨T,f⟩ w' #[]).2++#[]):=hs
    rw [lone_step hs'] at e
    exact no m _ _ (sent_return a _) e
  | halt y v' =>
    rw [hr] at hs
    have:∃ o w'' es,stepG ⟨T,f⟩ true (Gr fr' [sent ⟨T,f⟩]) w' = .ended o w'' es:=by
      rw [hs]
      cases y <;> exact ⟨_,_,_,rfl⟩
    obtain ⟨o,w3,es,hs'⟩:=this
    rw [lone_ended hs'] at e
    cases e
theorem tm_step {Fin:Frame->World->Prop} (h:Ord ok S fr) (htops:∀ t ∈ tops,Ord ok S t/\t.mode = .run) (hF:∀ x ∈ S,Fine ok f f x) (hst:∀ b,(⟨T,f⟩:Program).stepOf b=none) (hsp:¬ Spec ⟨T,f⟩ S fr tops) (hG:Gv fr.fn fr.eval)
    (hT:Tm2 ⟨T,f⟩ Fin fr tops w) (τ:Nat->Question->Nat) (ht:Ext w τ) :
    ∃ fr' tops' w' es,stepG ⟨T,f⟩ true (Gr fr (tops++[sent ⟨T,f⟩])) (Rt w τ) = .go (Gr fr' (tops'++[sent ⟨T,f⟩])) w' es/\Near ⟨T,f⟩ S fr tops fr' tops'/\Ord ok S fr'/\(∀ t ∈ tops',Ord ok S t/\t.mode = .run)/\w'.tape=τ/\w.drawn<=w'.drawn/\Kc w w'/\Tm2 ⟨T,f⟩ Fin fr' tops' w' /\
      ∀ τ',(∀ i,i<w'.drawn->τ' i=τ i)->stepG ⟨T,f⟩ true (Gr fr (tops++[sent ⟨T,f⟩])) (Rt w τ') = .go (Gr fr' (tops'++[sent ⟨T,f⟩])) (Rt w' τ') es:=by
  have first:∀ τ,Ext w τ->∃ n fr' w',runN ⟨T,f⟩ (n+1) (lone fr (tops++[sent ⟨T,f⟩]) (Rt w τ)) = .next (lone fr' [sent ⟨T,f⟩] w')/\Leaves ⟨T,f⟩ fr'/\Fin fr' w':=by
    intro τ ht
    obtain ⟨n,fr',w',e,m,q⟩:=hT τ ht
    cases n with
    | zero =>
      exfalso
      simp only [runN,lone,Stepped.next.injEq,Machine.mk.injEq] at e
      have e2:(Gr fr (tops++[sent ⟨T,f⟩]))=(Gr fr' [sent ⟨T,f⟩]):=by
        have:=e.2.1
        simpa using this
      injection e2 with e3 e4
      have:tops=[]:=by simpa using e4
      exact hsp (.inl ⟨this,by rw [e3,m.1];simp⟩)
    | succ n=>exact ⟨n,fr',w',e,m,q⟩
  rcases use (w:=w) h htops hF hst hsp hG [sent ⟨T,f⟩] τ with ⟨fr',tops',w',es,e,nr,h1,h2,t,d,kc,x⟩ | ⟨o,w',es,e⟩
  · refine ⟨fr',tops',w',es,e,nr,h1,h2,t,d,kc,fun τ' ht'=>?_,x⟩
    have hx:∀ i,i<w'.drawn->τ' i=τ i:=fun i hi=>by rw [ht' i hi,t]
    obtain ⟨n,fr'',w'',e2,m,q⟩:=first τ' (fun i hi=>by rw [hx i (by omega)];exact ht i hi)
    refine ⟨n,fr'',w'',?_,m,q⟩
    simp only [runN] at e2
    rw [lone_step (x τ' hx)] at e2
    exact e2
  · exfalso
    obtain ⟨n,fr'',w'',e2,m,q⟩:=first τ ht
    simp only [runN] at e2
    rw [lone_ended e] at e2
    cases e2
theorem tm_leap {Fin:Frame->World->Prop} {fr':Frame} {tops':List Frame} {w':World} (hL:Leap ⟨T,f⟩ fr tops w fr' tops' w') (hT:Tm2 ⟨T,f⟩ Fin fr tops w):Tm2 ⟨T,f⟩ Fin fr' tops' w':=by
  obtain ⟨l1,l2,l3⟩:=hL
  intro τ hτ
  have hτ':Ext w τ:=fun i hi=>by rw [hτ i (by rw [l2];exact hi),l1]
  obtain ⟨n,fr'',w'',e,m,q⟩:=hT τ hτ'
  obtain ⟨k,e'⟩:=l3 τ hτ'
  rcases Nat.lt_or_ge k n with h | h
  · obtain ⟨j,rfl⟩:=Nat.exists_eq_add_of_le h
    refine ⟨j,fr'',w'',?_,m,q⟩
    rw [runN_add,e'] at e
    exact e
  · exfalso
    obtain ⟨j,rfl⟩:=Nat.exists_eq_add_of_le h
    rw [Nat.add_assoc,runN_add,e] at e'
    exact after_end m j e'
theorem bar {Fin:Frame->World->Prop} {Jump:Frame->List Frame->World->Frame->List Frame->World->Prop} {I:Frame->List Frame->World->Prop} (hF:∀ x ∈ S,Fine ok f f x) (hst:∀ b,(⟨T,f⟩:Program).stepOf b=none) 
    (hIG:∀ fr tops w,I fr tops w->Gv fr.fn fr.eval)
    (hI:∀ fr tops w fr' tops' w' τ es,Ord ok S fr->(∀ t ∈ tops,Ord ok S t/\t.mode = .run)->¬ Spec ⟨T,f⟩ S fr tops->Near ⟨T,f⟩ S fr tops fr' tops'->Kc w w'->stepG ⟨T,f⟩ true (Gr fr (tops++[sent ⟨T,f⟩])) (Rt w τ) = .go (Gr fr' (tops'++[sent ⟨T,f⟩])) w' es->Tm2 ⟨T,f⟩ Fin fr' tops' w'->I fr tops w->I fr' tops' w')
    (hjump:∀ fr tops w,Ord ok S fr->(∀ t ∈ tops,Ord ok S t/\t.mode = .run)->fr.mode = .run->Spec ⟨T,f⟩ S fr tops->I fr tops w->Tm2 ⟨T,f⟩ Fin fr tops w ->
      ∃ fr' tops' w',Jump fr tops w fr' tops' w'/\Leap ⟨T,f⟩ fr tops w fr' tops' w'/\Ord ok S fr'/\(∀ t ∈ tops',Ord ok S t/\t.mode = .run)/\I fr' tops' w')
    (h0:Ord ok S fr) (ht0:∀ t ∈ tops,Ord ok S t/\t.mode = .run) (hI0:I fr tops w) (hT0:Tm2 ⟨T,f⟩ Fin fr tops w):Tree ⟨T,f⟩ S Jump fr tops w:=by
  refine Classical.byContradiction fun hn=>?_
  let X:={ x:Frame × List Frame × World // Ord ok S x.1/\(∀ t ∈ x.2.1,Ord ok S t/\t.mode = .run)/\I x.1 x.2.1 x.2.2/\Tm2 ⟨T,f⟩ Fin x.1 x.2.1 x.2.2/\¬ Tree ⟨T,f⟩ S Jump x.1 x.2.1 x.2.2 }
  have nx:∀ x:X,∃ y:X,x.1.2.2.drawn<=y.1.2.2.drawn/\Ext x.1.2.2 y.1.2.2.tape /\
      ∀ τ',(∀ i,i<y.1.2.2.drawn->τ' i=y.1.2.2.tape i)->∃ m,runN ⟨T,f⟩ (m+1) (lone x.1.1 (x.1.2.1++[sent ⟨T,f⟩]) (Rt x.1.2.2 τ')) = .next (lone y.1.1 (y.1.2.1++[sent ⟨T,f⟩]) (Rt y.1.2.2 τ')):=by
    rintro ⟨⟨fr,tops,w⟩,h,ht,hi,hT,hN⟩
    by_cases hsp:Spec ⟨T,f⟩ S fr tops
    · by_cases hm:fr.mode = .run
      · obtain ⟨fr',tops',w',hj,hl,h1,h2,hi'⟩:=hjump fr tops w h ht hm hsp hi hT
        refine ⟨⟨(fr',tops',w'),h1,h2,hi',tm_leap hl hT,fun q=>hN (.jump hj q)⟩,?_,?_,?_⟩
        · exact Nat.le_of_eq hl.2.1.symm
        · intro i _;show w'.tape i=w.tape i;rw [hl.1]
        · intro τ' hh
          exact hl.2.2 τ' (fun i hi=>by rw [hh i (by show i<w'.drawn;rw [hl.2.1];exact hi)];show w'.tape i=w.tape i;rw [hl.1])
      · exfalso
        rcases hsp with ⟨rfl,hm'⟩ | ⟨hm',_⟩
        · exact hN (.fin hm')
        · exact hm hm'
    · have:∃ τ,Ext w τ/\∀ fr' tops' w' es,stepG ⟨T,f⟩ true (Gr fr (tops++[sent ⟨T,f⟩])) (Rt w τ) = .go (Gr fr' (tops'++[sent ⟨T,f⟩])) w' es->¬ Tree ⟨T,f⟩ S Jump fr' tops' w':=by
        refine Classical.byContradiction fun q=>hN (Tree.of hsp fun τ ht=>Classical.byContradiction fun q'=>q ⟨τ,ht,fun fr' tops' w' es e t=>q' ⟨fr',tops',w',es,e,t⟩⟩)
      obtain ⟨τ,hτ,q⟩:=this
      obtain ⟨fr',tops',w',es,e,nr,h1,h2,t,d,kc,hT',x⟩:=tm_step h ht hF hst hsp (hIG _ _ _ hi) hT τ hτ
      refine ⟨⟨(fr',tops',w'),h1,h2,hI _ _ _ _ _ _ _ _ h ht hsp nr kc e hT' hi,hT',q _ _ _ _ e⟩,d,?_,fun τ' hh=>⟨0,?_⟩⟩
      · show Ext w w'.tape;rw [t];exact hτ
      · simp only [runN]
        rw [lone_step (x τ' (fun i hi=>by rw [hh i hi];show w'.tape i=τ i;rw [t]))]
  let s:Nat->X:=fun i=>Nat.rec ⟨(fr,tops,w),h0,ht0,hI0,hT0,hn⟩ (fun _ x=>Classical.choose (nx x)) i
  have link:∀ i,(s i).1.2.2.drawn<=(s (i+1)).1.2.2.drawn/\Ext (s i).1.2.2 (s (i+1)).1.2.2.tape /\
      ∀ τ',(∀ j,j<(s (i+1)).1.2.2.drawn->τ' j=(s (i+1)).1.2.2.tape j)->∃ m,runN ⟨T,f⟩ (m+1) (lone (s i).1.1 ((s i).1.2.1++[sent ⟨T,f⟩]) (Rt (s i).1.2.2 τ')) = .next (lone (s (i+1)).1.1 ((s (i+1)).1.2.1++[sent ⟨T,f⟩]) (Rt (s (i+1)).1.2.2 τ')):=
    fun i=>Classical.choose_spec (nx (s i))
  have nest:∀ k i,(s i).1.2.2.drawn<=(s (i+k)).1.2.2.drawn/\Ext (s i).1.2.2 (s (i+k)).1.2.2.tape:=by
    intro k
    induction k with
    | zero=>exact fun i=>⟨Nat.le_refl _,fun _ _=>rfl⟩
    | succ k ih =>
      intro i
      obtain ⟨a1,a2⟩:=ih i
      obtain ⟨b1,b2,_⟩:=link (i+k)
      exact ⟨Nat.le_trans a1 b1,fun p hp=>(b2 p (Nat.lt_of_lt_of_le hp a1)).trans (a2 p hp)⟩
  have meet:∀ i j p,p<(s i).1.2.2.drawn->p<(s j).1.2.2.drawn->(s i).1.2.2.tape p=(s j).1.2.2.tape p:=by
    intro i j p hi hj
    rcases Nat.le_total i j with h | h
    · obtain ⟨k,rfl⟩:=Nat.exists_eq_add_of_le h
      exact ((nest k i).2 p hi).symm
    · obtain ⟨k,rfl⟩:=Nat.exists_eq_add_of_le h
      exact (nest k j).2 p hj
  obtain ⟨τs,hs⟩:∃ τs:Nat->Question->Nat,∀ i p,p<(s i).1.2.2.drawn->τs p=(s i).1.2.2.tape p:=by
    refine ⟨fun p=>open Classical in if h:∃ i,p<(s i).1.2.2.drawn then (s (Classical.choose h)).1.2.2.tape p else fun _=>0,fun i p hp=>?_⟩
    have h:∃ i,p<(s i).1.2.2.drawn:=⟨i,hp⟩
    simp only [dif_pos h]
    exact meet _ _ _ (Classical.choose_spec h) hp
  have run:∀ i,∃ p,i<=p/\runN ⟨T,f⟩ p (lone fr (tops++[sent ⟨T,f⟩]) (Rt w τs)) = .next (lone (s i).1.1 ((s i).1.2.1++[sent ⟨T,f⟩]) (Rt (s i).1.2.2 τs)):=by
    intro i
    induction i with
    | zero=>exact ⟨0,Nat.le_refl _,rfl⟩
    | succ i ih =>
      obtain ⟨p,hp,e⟩:=ih
      obtain ⟨_,_,x⟩:=link i
      obtain ⟨m,e'⟩:=x τs (fun j hj=>hs (i+1) j hj)
      refine ⟨p+(m+1),by omega,?_⟩
      rw [runN_add,e]
      exact e'
  obtain ⟨n,fr',w',e,m,q⟩:=hT0 τs (fun i hi=>hs 0 i hi)
  obtain ⟨p,hp,e'⟩:=run (n+1)
  obtain ⟨j,rfl⟩:=Nat.exists_eq_add_of_le hp
  rw [show n+1+j=n+(j+1) by omega,runN_add,e] at e'
  exact after_end m j e'
end
end Go.Proofs.YteaieagkjepgiaaGreatDoor
/- . -/
namespace Go.Proofs.YteaieagkjepgiaaGreatDoor
set_option maxRecDepth 100000
open Go.Conc
open Go.ConcN (sumTo upd sumTo_upd upd_ne upd_same)
abbrev NoShun:Loc->Prop:=fun _=>False
theorem low_some (e:Event):∃ B,(MemAct.ofEvent e).low B:=by
  cases MemAct.ofEvent e with
  | access x =>
    obtain ⟨l,_,_⟩:=x
    cases l with
    | cell a=>exact ⟨a.block+1,Nat.lt_succ_self _⟩
    | obj r=>exact ⟨r+1,Nat.lt_succ_self _⟩
    | _=>exact ⟨0,trivial⟩
  | mark m=>cases m <;> first | exact ⟨0,trivial⟩ | exact ⟨_+1,Nat.lt_succ_self _⟩
  | send c _=>exact ⟨c+1,Nat.lt_succ_self _⟩
  | sendDone c _=>exact ⟨c+1,Nat.lt_succ_self _⟩
  | recv c _ _=>exact ⟨c+1,Nat.lt_succ_self _⟩
  | recvDone c _=>exact ⟨c+1,Nat.lt_succ_self _⟩
  | close c=>exact ⟨c+1,Nat.lt_succ_self _⟩
  | recvClosed c=>exact ⟨c+1,Nat.lt_succ_self _⟩
  | _=>exact ⟨0,trivial⟩
theorem low_all (es:Array Event) (B:Nat):∃ B',B<=B'/\∀ e ∈ es,(MemAct.ofEvent e).low B':=by
  obtain ⟨l⟩:=es
  induction l with
  | nil=>exact ⟨B,Nat.le_refl _,fun e he=>by simp at he⟩
  | cons e l ih =>
    obtain ⟨B1,h1,h2⟩:=ih
    obtain ⟨B2,h3⟩:=low_some e
    refine ⟨max B1 B2,by omega,fun x hx=>?_⟩
    rcases (by simpa using hx:x=e\/x ∈ l) with rfl | hx
    · exact MemAct.low_mono (by omega) h3
    · exact MemAct.low_mono (by omega) (h2 x (by simpa using hx))
structure Keeps (Φ:Nat->Trace->Prop):Prop where
  mute:∀ {B t i fn pos es},Φ B t->i ≠ 0->(∀ e ∈ es,Event.mute e=true)->Φ B (t++MemOp.ofEvents i fn pos es)
  own:∀ {B B' t fn pos es},Φ B t->B<=B'->Quietly es->(∀ e ∈ es,(MemAct.ofEvent e).low B')->Φ B' (t++MemOp.ofEvents 0 fn pos es)
theorem keeps_past:Keeps (fun B t=>Past NoShun B t):=
  ⟨fun h hi hm=>h.mute hi hm,fun h hB hq hl=>(h.mono hB).own (fun e he=>⟨fun x _ hs=>hs.elim,fun hx=>(by cases (hq e he).1 _ hx),fun hx=>(by cases (hq e he).1 _ hx),hl e he⟩)⟩
section
variable {P:Program} {B:Nat} {Φ:Nat->Trace->Prop}
theorem turn0 (hΦ:Keeps Φ):∀ (M:Nat) (gs:Array Goroutine) (a:Goroutine) (w:World) (sl:Option (Nat × Nat)) (t:Trace) (q:Nat->Nat),sumTo gs.size q<=M->gs[0]?=some a->a.status = .running->Leavers P t gs q->Φ B t ->
    ∃ (N:Nat) (gs':Array Goroutine) (d d':Nat) (sl' sl'':Option (Nat × Nat)) (t':Trace) (q':Nat->Nat),runNT P N (crowd gs w sl) t=(.next (crowd gs' (w.at d) sl'),t')/\gs'.size=gs.size/\gs'[0]?=some a/\Leavers P t' gs' q'/\Φ B t' /\
      stepT P (crowd gs' (w.at d) sl')=runT P (crowd gs' (w.at d') sl'') 0:=by
  intro M
  induction M with
  | zero =>
    intro gs a w sl t q hM h0 hrun hL hP
    have haw:∀ g ∈ gs,awake g:=by
      intro g hg
      obtain ⟨i,hi,rfl⟩:=Array.mem_iff_getElem.1 hg
      rcases Nat.eq_zero_or_pos i with rfl | hpos
      · have:gs[0]=a:=by simpa [Array.getElem?_eq_getElem hi] using h0
        rw [this];exact awake_of (.inl hrun)
      · exact awake_of ((hL.old i _ hpos (Array.getElem?_eq_getElem hi)).status.elim .inl fun x=>.inr (.inr x))
    obtain ⟨i,g,d,sl',hi,hg,hst⟩:=crowd_pick (P:=P) (w:=w) (sl:=sl) haw ⟨0,a,h0,hrun⟩
    rcases Nat.eq_zero_or_pos i with rfl | hpos
    · exact ⟨0,gs,w.drawn,d,sl,sl',t,q,rfl,rfl,h0,hL,hP,hst⟩
    · exfalso
      have hq:=hL.old i g hpos hi
      have hlt:i<gs.size:=(Array.getElem?_eq_some_iff.1 hi).1
      have hz:q i=0:=by
        have:=sumTo_upd q 0 id hlt
        simp at this
        have h2:sumTo gs.size (fun a=>q a)=sumTo gs.size q:=rfl
        omega
      rw [hz] at hq
      rw [hq.1] at hg
      cases hg
  | succ M ih =>
    intro gs a w sl t q hM h0 hrun hL hP
    have haw:∀ g ∈ gs,awake g:=by
      intro g hg
      obtain ⟨i,hi,rfl⟩:=Array.mem_iff_getElem.1 hg
      rcases Nat.eq_zero_or_pos i with rfl | hpos
      · have:gs[0]=a:=by simpa [Array.getElem?_eq_getElem hi] using h0
        rw [this];exact awake_of (.inl hrun)
      · exact awake_of ((hL.old i _ hpos (Array.getElem?_eq_getElem hi)).status.elim .inl fun x=>.inr (.inr x))
    obtain ⟨i,g,d,sl',hi,hg,hst⟩:=crowd_pick (P:=P) (w:=w) (sl:=sl) haw ⟨0,a,h0,hrun⟩
    rcases Nat.eq_zero_or_pos i with rfl | hpos
    · exact ⟨0,gs,w.drawn,d,sl,sl',t,q,rfl,rfl,h0,hL,hP,hst⟩
    · have hq:=hL.old i g hpos hi
      have hi0:(i==0)=false:=by simp;omega
      have hlt:i<gs.size:=(Array.getElem?_eq_some_iff.1 hi).1
      cases hqi:q i with
      | zero=>rw [hqi] at hq;rw [hq.1] at hg;cases hg
      | succ k =>
        rw [hqi] at hq
        rcases hq with ⟨hf,_⟩ | ⟨_,g',es,hm,hstp,hq'⟩
        · rw [hf] at hg;cases hg
        have hrunT:=runT_crowd_go (P:=P) (sl:=sl') (i:=i) hi (by rw [hi0];exact hstp (w.at d))
        have hsz:((gs.map (woken P g g' (w.at d))).setIfInBounds i g').size=gs.size:=by simp
        have hsum:sumTo gs.size (upd q i k)+(k+1)=sumTo gs.size q+k:=by
          have:=sumTo_upd q k id hlt
          simpa [hqi] using this
        obtain ⟨N,gs',d1,d2,s1,s2,t',q',hr,hs',h0',hL',hP',hst'⟩:=ih ((gs.map (woken P g g' (w.at d))).setIfInBounds i g') a (w.at d) sl' (t++MemOp.ofEvents i g.frame.fn g.frame.place es) (upd q i k) (by rw [hsz];omega)
          (by
            have hne:i ≠ 0:=by omega
            rw [Array.getElem?_setIfInBounds_ne hne,Array.getElem?_map,h0]
            simp [woken_run hrun]) hrun
          ⟨fun j x hj hx=>by
            by_cases hji:i=j
            · subst hji
              rw [Array.getElem?_setIfInBounds_self_of_lt (by simpa using hlt)] at hx
              obtain rfl:=Option.some.inj hx
              rw [upd_same,Deaf_own]
              exact hq'
            · rw [Array.getElem?_setIfInBounds_ne hji,Array.getElem?_map] at hx
              obtain ⟨y,hy,rfl⟩:=Option.map_eq_some_iff.1 hx
              have hqj:=hL.old j y hj hy
              rw [woken_quitsD hqj,upd_ne q k (Ne.symm hji),Deaf_other t hji _ (fun op hop=>by obtain ⟨e,_,rfl⟩:=Go.Conc.mem_ofEvents hop;rfl)]
              exact hqj,fun j hj=>by
            rw [Deaf_other t (g':=i) (by simp at hj;omega) _ (fun op hop=>by obtain ⟨e,_,rfl⟩:=Go.Conc.mem_ofEvents hop;rfl)]
            exact hL.above j (by simpa using hj)⟩
          (hΦ.mute hP (by omega) hm)
        exact ⟨N+1,gs',d1,d2,s1,s2,t',q',by simp only [runNT,hst,hrunT];exact hr,hs'.trans hsz,h0',hL',hP',hst'⟩
theorem idle1 (hΦ:Keeps Φ) {gs:Array Goroutine} {a:Goroutine} {w:World} {sl:Option (Nat × Nat)} {t:Trace} {q:Nat->Nat} (h0:gs[0]?=some a) (hrun:a.status = .running) (hL:Leavers P t gs q) (hP:Φ B t)
    (hgo:∀ d,∃ a' w' es,stepG P true a (w.at d) = .go a' w' es/\Quietly es) :
    ∃ (N:Nat) (gs':Array Goroutine) (a':Goroutine) (d:Nat) (w':World) (es:Array Event) (sl':Option (Nat × Nat)) (t':Trace) (q':Nat->Nat) (B':Nat),
      stepG P true a (w.at d) = .go a' w' es/\runNT P N (crowd gs w sl) t=(.next (crowd gs' w' sl'),t')/\gs'.size=gs.size/\gs'[0]?=some a'/\Leavers P t' gs' q'/\Φ B' t':=by
  obtain ⟨N,gs1,d1,d2,s1,s2,t1,q1,hr,hs1,h1,hL1,hP1,hst⟩:=turn0 (P:=P) (B:=B) hΦ _ gs a w sl t q (Nat.le_refl _) h0 hrun hL hP
  obtain ⟨a',w',es,hstep,hq⟩:=hgo d2
  obtain ⟨B',hB,hlow⟩:=low_all es B
  have hrunT:=runT_crowd_go (P:=P) (sl:=s2) (i:=0) h1 (show stepG P (0==0) a (w.at d2)=_ from hstep)
  have hlt:0<gs1.size:=(Array.getElem?_eq_some_iff.1 h1).1
  refine ⟨N+1,(gs1.map (woken P a a' w')).setIfInBounds 0 a',a',d2,w',es,s2,t1++MemOp.ofEvents 0 a.frame.fn a.frame.place es,q1,B',hstep,?_,by simpa using hs1,by rw [Array.getElem?_setIfInBounds_self_of_lt (by simpa using hlt)],⟨fun j x hj hx=>?_,fun j hj=>?_⟩,?_⟩
  · rw [runNT_add,hr]
    simp only [runNT]
    have:stepT P (crowd gs1 (w.at d1) s1)=_:=hst.trans hrunT
    rw [this]
  · have hne:0 ≠ j:=by omega
    rw [Array.getElem?_setIfInBounds_ne hne,Array.getElem?_map] at hx
    obtain ⟨y,hy,rfl⟩:=Option.map_eq_some_iff.1 hx
    have hqy:=hL1.old j y hj hy
    rw [woken_quitsD hqy,Deaf_other t1 (by omega) _ (fun op hop=>by obtain ⟨e,_,rfl⟩:=Go.Conc.mem_ofEvents hop;rfl)]
    exact hqy
  · rw [Deaf_other t1 (g':=0) (by simp at hj;omega) _ (fun op hop=>by obtain ⟨e,_,rfl⟩:=Go.Conc.mem_ofEvents hop;rfl)]
    exact hL1.above j (by simpa using hj)
  · exact hΦ.own hP1 hB hq hlow
end
end Go.Proofs.YteaieagkjepgiaaGreatDoor
/- . -/
namespace Go.Proofs.YteaieagkjepgiaaGreatDoor
set_option maxRecDepth 100000
open Go.Conc
def Win (P:Program) (Post:Value->World->Prop) (gs:Array Goroutine) (w:World) (sl:Option (Nat × Nat)) (t:Trace):Prop:=
  ∃ N last o w' t',runNT P (N+1) (crowd gs w sl) t=(.ended o w',t')/\runN P N (crowd gs w sl) = .next last/\step P last = .ended o w'/\Good P Post last o w' t'
theorem Win.of {P:Program} {Post:Value->World->Prop} {gs gs':Array Goroutine} {w w':World} {sl sl':Option (Nat × Nat)} {t t':Trace} {K:Nat} (hr:runNT P K (crowd gs w sl) t=(.next (crowd gs' w' sl'),t')) (h:Win P Post gs' w' sl' t'):Win P Post gs w sl t:=by
  obtain ⟨N,last,o,v,u,e1,e2,e3,e4⟩:=h
  refine ⟨K+N,last,o,v,u,?_,?_,e3,e4⟩
  · rw [Nat.add_assoc,runNT_add,hr];exact e1
  · rw [runN_add,<-runNT_fst P K _ t,hr];exact e2
section
variable {ok:Op->Bool} {S:List FuncId} {T:Tables} {f g:Array Func} {fr:Frame} {tops:List Frame} {w w₁:World} {N₀:Nat}
def glue (w w₁:World) (d:Nat):Nat->Question->Nat:=fun i=>if i<w.drawn then w.tape i else w₁.tape (d+(i - w.drawn))
theorem glue_ext (w w₁:World) (d:Nat):Ext w (glue w w₁ d):=fun i hi=>by unfold glue;rw [if_pos hi]
theorem glue_agree (w w₁:World) (d k:Nat):Agree k (Rt w (glue w w₁ d)) (w₁.at d):=by
  intro i _ q
  show w₁.tape (d+i) q=glue w w₁ d (w.drawn+i) q
  unfold glue
  rw [if_neg (by omega),Nat.add_sub_cancel_left]
theorem idle_one {Φ:Nat->Trace->Prop} (hΦ:Keeps Φ) {Fin:Frame->World->Prop} {Post:Value->World->Prop} {τ₀:Nat->Question->Nat} (hF:∀ x ∈ S,Fine ok f g x) (hst:∀ b,(⟨T,f⟩:Program).stepOf b=none) (hst₁:∀ b,(⟨T,g⟩:Program).stepOf b=none)
    {J:World->World->Prop} (hJ:∀ w w₁ w' w₁',J w w₁->Kc w w'->Kc w₁ w₁'->J w' w₁') {gs:Array Goroutine} {sl:Option (Nat × Nat)} {t:Trace} {q:Nat->Nat} {B:Nat} (hsp:¬ Spec ⟨T,f⟩ S fr tops) (hG:Gv fr.fn fr.eval)
    (ho:Ord ok S fr) (ht:∀ t ∈ tops,Ord ok S t/\t.mode = .run) (hM:Tm2 ⟨T,f⟩ Fin fr tops w) (h0:gs[0]?=some (Gr fr tops)) (hL:Leavers ⟨T,g⟩ t gs q) (hP:Φ B t) (hS:Sim (some N₀) w w₁) (hτ:w₁.tape=τ₀) (hj:J w w₁)
    (k:∀ (d:Nat) (fr':Frame) (tops':List Frame) (w' w₁':World) (es:Array Event) (gs':Array Goroutine) (sl':Option (Nat × Nat)) (t':Trace) (q':Nat->Nat) (B':Nat),
      stepG ⟨T,f⟩ true (Gr fr (tops++[sent ⟨T,f⟩])) (Rt w (glue w w₁ d)) = .go (Gr fr' (tops'++[sent ⟨T,f⟩])) w' es->Near ⟨T,f⟩ S fr tops fr' tops'->Kc w w'->Ord ok S fr'->(∀ t ∈ tops',Ord ok S t/\t.mode = .run)->Tm2 ⟨T,f⟩ Fin fr' tops' w'->gs'[0]?=some (Gr fr' tops') ->
      gs'.size=gs.size->Leavers ⟨T,g⟩ t' gs' q'->Φ B' t'->Sim (some N₀) w' w₁'->w₁'.tape=τ₀->J w' w₁'->Win ⟨T,g⟩ Post gs' w₁' sl' t'):Win ⟨T,g⟩ Post gs w₁ sl t:=by
  have hFf:∀ x ∈ S,Fine ok f f x:=fun x hx=>⟨⟨rfl,(hF x hx).1.2⟩,(hF x hx).2⟩
  have key:∀ d,Both (some N₀) ok S ⟨T,f⟩ ⟨T,g⟩ true true fr tops [sent ⟨T,f⟩] [] (Rt w (glue w w₁ d)) (w₁.at d):=fun d =>
    both_step ho ht hF hst hst₁ ⟨hS.os,hS.output,hS.size,hS.block⟩ hsp hG
  have two:∀ d,∃ fr' tops' w' w₁' es,stepG ⟨T,f⟩ true (Gr fr (tops++[sent ⟨T,f⟩])) (Rt w (glue w w₁ d)) = .go (Gr fr' (tops'++[sent ⟨T,f⟩])) w' es/\stepG ⟨T,g⟩ true (Gr fr tops) (w₁.at d) = .go (Gr fr' tops') w₁' es/\Near ⟨T,f⟩ S fr tops fr' tops'/\Kc (Rt w (glue w w₁ d)) w' /\
      Ord ok S fr'/\(∀ t ∈ tops',Ord ok S t/\t.mode = .run)/\Sim (some N₀) w' w₁'/\w₁'.tape=τ₀/\Quietly es/\J w' w₁'/\Tm2 ⟨T,f⟩ Fin fr' tops' w':=by
    intro d
    obtain ⟨fr3,tops3,w3,es3,e3,_,_,_,_,_,_,hM3,_⟩:=tm_step ho ht hFf hst hsp hG hM _ (glue_ext w w₁ d)
    rcases key d with ⟨fr',tops',w',k,es,e,nr,h1,h2,t1,d1,hq,kc,x⟩ | ⟨o,w',es,e⟩
    · obtain ⟨w₁',e',s',t',d',kc'⟩:=x (glue_agree w w₁ d k)
      have e4:=e3
      rw [e] at e4
      injection e4 with r1 r2 r3
      injection r1 with r4 r5
      have r6:=List.append_cancel_right r5
      subst r4 r6 r2
      refine ⟨fr',tops',w',w₁',es,e,?_,nr,kc,h1,h2,s',t'.trans hτ,hq,hJ _ _ _ _ hj kc kc',hM3⟩
      simpa using e'
    · rw [e] at e3
      cases e3
  obtain ⟨K,gs',a',d,w₁'',es,sl',t',q',B',hstep,hr,hsz,h0',hL',hP'⟩:=idle1 (P:=⟨T,g⟩) hΦ (sl:=sl) h0 rfl hL hP (fun d=>by
    obtain ⟨fr',tops',w',w₁',es,_,e,_,_,_,_,_,_,hq,_⟩:=two d
    exact ⟨_,_,_,e,hq⟩)
  obtain ⟨fr',tops',w',w₁',es',e,e',nr,kc,h1,h2,s',t1,_,hj',hM'⟩:=two d
  rw [hstep] at e'
  injection e' with q1 q2 q3
  subst q1 q2 q3
  exact Win.of hr (k d fr' tops' w' w₁'' es gs' sl' t' q' B' e nr kc h1 h2 hM' h0' hsz hL' hP' s' t1 hj')
end
end Go.Proofs.YteaieagkjepgiaaGreatDoor
/- . -/
namespace Go.Proofs.YteaieagkjepgiaaGreatDoor
set_option maxRecDepth 100000
open Go.Conc
section
variable {ok:Op->Bool} {S:List FuncId} {T:Tables} {f g:Array Func} {fr:Frame} {tops:List Frame} {w w₁:World} {N₀:Nat}
theorem sent_end {Fin:Frame->World->Prop} (h:Ord ok S fr) (hK:∃ fn,f[fr.fn]?=some fn) (hm:fr.mode ≠ .run) (hT:Tm2 ⟨T,f⟩ Fin fr [] w):fr.mode = .returning/\∀ τ,Ext w τ->Fin fr (Rt w τ):=by
  have one:∀ τ,Ext w τ->fr.mode = .returning/\Fin fr (Rt w τ):=by
    intro τ hτ
    obtain ⟨n,fr',w',e,m,q⟩:=hT τ hτ
    cases n with
    | zero =>
      simp only [runN,lone,Stepped.next.injEq,Machine.mk.injEq,List.nil_append] at e
      have e1:=e.1
      have e2:Gr fr [sent ⟨T,f⟩]=Gr fr' [sent ⟨T,f⟩]:=by simpa using e.2.1
      injection e2 with e3
      subst e3 e1
      exact ⟨m.1,q⟩
    | succ n =>
      exfalso
      cases hmd:fr.mode with
      | run=>exact hm hmd
      | panicking ch =>
        obtain ⟨fn,hfn⟩:=hK
        have hdf:=h.defers
        have hs:stepG ⟨T,f⟩ true (Gr fr [sent ⟨T,f⟩]) (Rt w τ) = .go (Gr ((sent ⟨T,f⟩).raise ch) []) (Rt w τ) #[]:=by
          obtain ⟨fn',tmps,todo,defers,mode,kind,round⟩:=fr
          simp only at hmd hdf hfn
          subst hmd hdf
          simp [stepG,unwind,Frame.catches,hfn]
        simp only [runN,List.nil_append] at e
        rw [lone_step hs] at e
        cases n with
        | zero =>
          simp only [runN,lone,Stepped.next.injEq,Machine.mk.injEq] at e
          have:=e.2.1
          simp at this
        | succ n =>
          obtain ⟨o,w3,es,hs⟩:=sent_panic (T:=T) (f:=f) ch (Rt w τ)
          simp only [runN,lone_ended hs] at e
          cases e
      | returning=>exact after_end (tops':=[]) ⟨hmd,h.defers,h.kind,hK⟩ n (by simpa using e)
  have h0:=one w.tape (fun _ _=>rfl)
  exact ⟨h0.1,fun τ hτ=>(one τ hτ).2⟩
theorem end_win {Post:Value->World->Prop} {gs:Array Goroutine} {sl:Option (Nat × Nat)} {t:Trace} {q:Nat->Nat} {B:Nat} {fn:Func} {v:Value} (h:Ord ok S fr) (hm:fr.mode = .returning) (hfn:g[fr.fn]?=some fn)
    (hres:results fn fr.tmps=pure v) (hi:(⟨T,g⟩:Program).inits.idxOf? fr.fn=none) (h0:gs[0]?=some (Gr fr [])) (hL:Leavers ⟨T,g⟩ t gs q) (hP:Past NoShun B t) (hpost:∀ d,Post v (w₁.at d)):Win ⟨T,g⟩ Post gs w₁ sl t:=by
  refine beside_ends (D:=fun _ _ _=>False) (n:=0) (fun _ _ _ h=>h.elim) h0 hL hP ?_
  intro w₂ hw
  obtain ⟨d,rfl⟩:=hw
  refine ⟨rfl,v,#[],?_,fun e he=>by simp at he,hpost d⟩
  have hdf:=h.defers
  have hkd:=h.kind
  obtain ⟨fn',tmps,todo,defers,mode,kind,round⟩:=fr
  simp only at hm hdf hfn hkd hres hi
  subst hm hdf hkd
  simp only [stepG,unwind,hfn,doReturn,hres,hi]
  rfl
theorem tm_begin {L:FuncId} {args:Array Value} {w₀:World} {Q:World->Value->World->Prop} (hC:∀ τ,Calls ⟨T,f⟩ L args (Rt w₀ τ) fun e w'=>∃ v,e = .returned v/\Q (Rt w₀ τ) v w') (hd:w₀.drawn=0) :
    Tm2 ⟨T,f⟩ (fun fr w'=>∃ τ v fn,fr.fn=L/\f[L]?=some fn/\(results fn fr.tmps).run ⟨T,f⟩ w' = .ok v w'/\Q (Rt w₀ τ) v w') (Frame.enter ⟨T,f⟩ L args .normal) [] w₀:=by
  intro τ _
  obtain ⟨e,w',fr',⟨v,rfl,hq⟩,hs,hf,hm,hdf,hkd,fn,k1,k2⟩:=hC τ [sent ⟨T,f⟩]
  obtain ⟨n,hn⟩:=hs
  exact ⟨n,fr',w',hn,⟨hm,hdf,hkd,fn,k1⟩,τ,v,fn,hf,by rw [<-hf];exact k1,k2,hq⟩
end
end Go.Proofs.YteaieagkjepgiaaGreatDoor
