/- Texts of ours, laid one behind the other: SeX, SeY, SeZ, SfA, SfB, SfC, SfD0, XeG. -/
import Derived.Test.YteaieagkjepgiaaGreatDoorPfM5
set_option linter.unusedVariables false
set_option linter.unusedSimpArgs false
/- . -/
namespace Go.Proofs.YteaieagkjepgiaaGreatDoor
set_option maxRecDepth 100000
open Go.Conc
def within (ok:Op->Bool) (sl:List Nat) (bl:List Nat):Code->Bool
  | .skip=>true
  | .exit id=>bl.contains id
  | .region _ ops _=>ops.all (fun o=>ok o.op&&sl.all (fun s=>o.dst != some s))
  | .seq a b=>within ok sl bl a&&within ok sl bl b
  | .cond _ a b=>within ok sl bl a&&within ok sl bl b
  | .block id c=>within ok sl (id::bl) c
  | .loop c=>within ok sl bl c
  | .scope c=>within ok sl bl c
  | _=>false
def blocks:List Item->List Nat
  | []=>[]
  | .inBlock id::k=>id::blocks k
  | _::k=>blocks k
def inPre (ok:Op->Bool) (sl:List Nat):List Item->Bool
  | []=>true
  | .inBlock _::k=>inPre ok sl k
  | .code c::k=>within ok sl (blocks k) c&&inPre ok sl k
  | .inLoop c::k=>within ok sl (blocks k) c&&inPre ok sl k
  | .inScope c::k=>within ok sl (blocks k) c&&inPre ok sl k
  | .inRegion ops _::k=>ops.all (fun o=>ok o.op&&sl.all (fun s=>o.dst != some s))&&inPre ok sl k
  | _=>false
section
variable {ok:Op->Bool} {sl:List Nat} {fr fr':Frame} {pre tail k':List Item}
theorem exit_pre {id:Nat}:∀ {pre:List Item},inPre ok sl pre=true->id ∈ blocks pre->∃ pre',exitTo id (pre++tail)=some (pre'++tail)/\inPre ok sl pre'=true
  | [],_,h=>by simp [blocks] at h
  | x::pre,hp,h=>by
    have step:inPre ok sl pre=true->id ∈ blocks pre->∃ pre',exitTo id (pre++tail)=some (pre'++tail)/\inPre ok sl pre'=true:=exit_pre
    cases x with
    | inBlock id' =>
      simp only [inPre] at hp
      simp only [List.cons_append,exitTo]
      by_cases e:id'=id
      · subst e
        exact ⟨pre,by simp,hp⟩
      · have hb:(id'==id)=false:=by simpa using e
        rw [hb]
        refine step hp ?_
        simp only [blocks,List.mem_cons] at h
        rcases h with h | h
        · exact absurd h.symm e
        · exact h
    | code c=>simp only [inPre,Bool.and_eq_true] at hp;exact step hp.2 h
    | inLoop c=>simp only [inPre,Bool.and_eq_true] at hp;exact step hp.2 h
    | inScope c=>simp only [inPre,Bool.and_eq_true] at hp;exact step hp.2 h
    | inRegion ops l=>simp only [inPre,Bool.and_eq_true] at hp;exact step hp.2 h
    | _=>simp [inPre] at hp
theorem ctl_pre {x:Item} (ht:fr.todo=x::pre++tail) (hp:inPre ok sl (x::pre)=true) (hc:Ctl fr k'):∃ pre',k'=pre'++tail/\inPre ok sl pre'=true:=by
  unfold Ctl at hc
  rw [ht] at hc
  cases x with
  | inBlock id=>exact ⟨pre,hc,hp⟩
  | inScope c=>simp only [inPre,Bool.and_eq_true] at hp;exact ⟨pre,hc,hp.2⟩
  | inLoop c=>simp only [inPre,Bool.and_eq_true] at hp;exact ⟨.code c::.inLoop c::pre,hc,by simp [inPre,blocks,hp]⟩
  | inRegion ops l =>
    simp only [inPre,Bool.and_eq_true] at hp
    cases l with
    | nil=>exact ⟨pre,hc,hp.2⟩
    | cons i r=>exact hc.elim
  | code c =>
    simp only [inPre,Bool.and_eq_true] at hp
    obtain ⟨h1,h2⟩:=hp
    cases c with
    | skip=>exact ⟨pre,hc,h2⟩
    | ret=>exact hc.elim
    | seq a b =>
      simp only [within,Bool.and_eq_true] at h1
      exact ⟨.code a::.code b::pre,hc,by simp [inPre,blocks,h1,h2]⟩
    | cond c a b =>
      simp only [within,Bool.and_eq_true] at h1
      obtain ⟨v,_,e⟩:=hc
      exact ⟨.code (if v then a else b)::pre,e,by cases v <;> simp [inPre,h1,h2]⟩
    | block id c=>exact ⟨.code c::.inBlock id::pre,hc,by simpa [inPre,blocks,within,h2] using h1⟩
    | loop c=>exact ⟨.code c::.inLoop c::pre,hc,by simpa [inPre,blocks,within,h2] using h1⟩
    | scope c=>exact ⟨.code c::.inScope c::pre,hc,by simpa [inPre,blocks,within,h2] using h1⟩
    | exit id =>
      obtain ⟨pre',e,h⟩:=exit_pre (ok:=ok) (sl:=sl) (tail:=tail) (id:=id) h2 (by simpa [within] using h1)
      have e':exitTo id (pre++tail)=some k':=hc
      rw [e] at e'
      cases e'
      exact ⟨pre',rfl,h⟩
    | region id ops d =>
      obtain ⟨l,_,e⟩:=hc
      exact ⟨.inRegion ops l::pre,e,by simpa [inPre,within,h2] using h1⟩
    | _=>exact hc.elim
  | _=>exact hc.elim
theorem fin_pre {v:Value} {ops:Array Oper} {i:Nat} {r:List Nat} (ht:fr.todo = .inRegion ops (i::r)::pre++tail) (hp:inPre ok sl (.inRegion ops (i::r)::pre)=true) :
    (fr.finish v).todo = .inRegion ops r::pre++tail/\inPre ok sl (.inRegion ops r::pre)=true/\(∀ s ∈ sl,(fr.finish v).tmps[s]?=fr.tmps[s]?)/\(fr.finish v).fn=fr.fn/\(fr.finish v).mode=fr.mode:=by
  have hp':=hp
  simp only [inPre,Bool.and_eq_true] at hp'
  have hf:fr.finish v = { fr with tmps:=(match (ops[i]?).bind (·.dst) with | some d=>fr.tmps.setIfInBounds d v | none=>fr.tmps),todo:=.inRegion ops r::(pre++tail) }:=by
    unfold Frame.finish
    rw [ht]
    rfl
  rw [hf]
  refine ⟨rfl,by simpa [inPre] using hp',fun s hs=>?_,rfl,rfl⟩
  dsimp only
  cases ho:ops[i]? with
  | none=>rfl
  | some o =>
    cases hd:o.dst with
    | none=>simp [hd]
    | some d =>
      simp only [Option.bind_some,hd]
      refine Array.getElem?_setIfInBounds_ne ?_
      rintro rfl
      have h1:=Array.all_eq_true_iff_forall_mem.1 hp'.1 o (Array.mem_of_getElem? ho)
      have h2:=List.all_eq_true.1 (Bool.and_eq_true_iff.1 h1).2 d hs
      simp [hd] at h2
theorem Ord.move {S:List FuncId} (h:Ord ok S fr) (hm:Move fr fr'):Ord ok S fr':=by
  cases hm with
  | same=>exact h
  | fin v _ _=>exact h.finish v
  | ret _ _=>exact ⟨h.fn,h.items,h.defers,h.kind,h.round⟩
  | raise ch =>
    unfold Frame.raise
    split <;> exact ⟨h.fn,h.items,h.defers,h.kind,h.round⟩
  | to k' _ hc =>
    refine h.todo ?_
    have hi:=h.items
    unfold Ctl at hc
    have cons:∀ {a:Item} {k:List Item},okItem ok a=true->(∀ i ∈ k,okItem ok i=true)->∀ i ∈ a::k,okItem ok i=true:=by
      intro a k ha hk i hi
      rcases List.mem_cons.1 hi with rfl | hi
      · exact ha
      · exact hk i hi
    cases ht:fr.todo with
    | nil=>rw [ht] at hc;exact hc.elim
    | cons x k =>
      rw [ht] at hc hi
      have hx:=hi x (.head _)
      have hk:∀ i ∈ k,okItem ok i=true:=fun i q=>hi i (.tail _ q)
      cases x with
      | inBlock id=>exact hc ▸ hk
      | inScope c=>exact hc ▸ hk
      | inLoop c=>exact hc ▸ cons (a:=.code c) hx (cons hx hk)
      | inRegion ops l =>
        cases l with
        | nil=>exact hc ▸ hk
        | cons i r=>exact hc.elim
      | code c =>
        cases c with
        | skip=>exact hc ▸ hk
        | seq a b =>
          simp only [okItem,okCode,Bool.and_eq_true] at hx
          exact hc ▸ cons (a:=.code a) hx.1 (cons (a:=.code b) hx.2 hk)
        | cond c a b =>
          simp only [okItem,okCode,Bool.and_eq_true] at hx
          obtain ⟨v,_,e⟩:=hc
          rw [e]
          exact cons (by cases v;exact hx.2;exact hx.1) hk
        | block id c=>exact hc ▸ cons (a:=.code c) hx (cons (a:=.inBlock id) rfl hk)
        | loop c=>exact hc ▸ cons (a:=.code c) hx (cons (a:=.inLoop c) hx hk)
        | scope c=>exact hc ▸ cons (a:=.code c) hx (cons (a:=.inScope c) hx hk)
        | exit id=>exact fun i q=>hk i (exitTo_sub hc i q)
        | region id ops d =>
          obtain ⟨l,_,e⟩:=hc
          rw [e]
          exact cons hx hk
        | _=>exact hc.elim
      | _=>exact hc.elim
end
end Go.Proofs.YteaieagkjepgiaaGreatDoor
/- . -/
namespace Go.Proofs.YteaieagkjepgiaaGreatDoor
set_option maxRecDepth 100000
open Go.Conc
structure Lp where
  ok:Op->Bool
  fn:FuncId
  slot:Nat
  pair:Nat
  flag:Nat
  rid:Nat
  id:Nat
  ops:Array Oper
  body:Code
  r5:Nat
  o5:Array Oper
  rest:List Item
def Lp.test (L:Lp):Code:=.cond (.tmp L.flag) .skip (.exit L.id)
def Lp.tail (L:Lp):List Item:=.inLoop (.seq (.region L.rid L.ops false) (.seq L.test L.body))::.inBlock L.id::L.rest
inductive At (L:Lp) (fr:Frame):Prop
  | body (pre:List Item) (ht:fr.todo=pre++L.tail) (hp:inPre L.ok [L.slot] pre=true)
  | p1 (o5:Array Oper) (ht:fr.todo = .inRegion o5 []::.code (.block L.id (.loop (.seq (.region L.rid L.ops false) (.seq L.test L.body))))::L.rest)
  | p2 (ht:fr.todo = .code (.block L.id (.loop (.seq (.region L.rid L.ops false) (.seq L.test L.body))))::L.rest)
  | p3 (ht:fr.todo = .code (.loop (.seq (.region L.rid L.ops false) (.seq L.test L.body)))::.inBlock L.id::L.rest)
  | s1 (ht:fr.todo = .code (.seq (.region L.rid L.ops false) (.seq L.test L.body))::L.tail)
  | s2 (ht:fr.todo = .code (.region L.rid L.ops false)::.code (.seq L.test L.body)::L.tail)
  | s3 (ht:fr.todo = .inRegion L.ops [0,1]::.code (.seq L.test L.body)::L.tail)
  | s4 (v:Value) (ht:fr.todo = .inRegion L.ops [1]::.code (.seq L.test L.body)::L.tail) (hv:fr.eval (.tmp L.pair) = .tuple #[v,.bool true])
  | s5 (ht:fr.todo = .inRegion L.ops []::.code (.seq L.test L.body)::L.tail) (hf:fr.eval (.tmp L.flag) = .bool true)
  | s6 (ht:fr.todo = .code (.seq L.test L.body)::L.tail) (hf:fr.eval (.tmp L.flag) = .bool true)
  | s7 (ht:fr.todo = .code L.test::.code L.body::L.tail) (hf:fr.eval (.tmp L.flag) = .bool true)
structure Place (L:Lp) (c:Nat) (fr:Frame):Prop where
  fn:fr.fn=L.fn
  mode:fr.mode = .run
  chan:fr.tmps[L.slot]?=some (.chan (some c))
  pair:L.pair<fr.tmps.size
  flag:L.flag<fr.tmps.size
  spot:At L fr
section
variable {L:Lp} {c:Nat} {fr fr':Frame}
theorem Place.to (h:Place L c fr) {k':List Item} (ha:At L { fr with todo:=k' }):Place L c { fr with todo:=k' }:=⟨h.fn,h.mode,h.chan,h.pair,h.flag,ha⟩
theorem Place.move (h:Place L c fr) (hs:L.ops.size=2) (hb:within L.ok [L.slot] [] L.body=true) (hm:Move fr fr') (h3:∀ l,l ≠ []->fr.todo ≠ .inRegion L.ops l::.code (.seq L.test L.body)::L.tail) (hc:∀ ch,fr'.mode ≠ .panicking ch):Place L c fr':=by
  cases hm with
  | same=>exact h
  | raise ch=>exact absurd (raise_mode h.mode ch) (hc ch)
  | ret _ ht =>
    exfalso
    cases h.spot with
    | body pre e hp =>
      rw [e] at ht
      cases pre with
      | nil=>simp [Lp.tail] at ht
      | cons x pre =>
        rcases ht with ht | ⟨k,ht⟩
        · simp at ht
        · simp only [List.cons_append,List.cons.injEq] at ht
          rw [ht.1] at hp
          simp [inPre,within] at hp
    | p1 o5 e=>rw [e] at ht;simp at ht
    | p2 e=>rw [e] at ht;simp at ht
    | p3 e=>rw [e] at ht;simp at ht
    | s1 e=>rw [e] at ht;simp at ht
    | s2 e=>rw [e] at ht;simp at ht
    | s3 e=>rw [e] at ht;simp at ht
    | s4 v e=>rw [e] at ht;simp at ht
    | s5 e=>rw [e] at ht;simp at ht
    | s6 e=>rw [e] at ht;simp at ht
    | s7 e=>rw [e] at ht;simp [Lp.test] at ht
  | fin v _ ht =>
    cases h.spot with
    | body pre e hp =>
      cases pre with
      | nil=>rw [e] at ht;simp [Lp.tail] at ht
      | cons x pre =>
        rw [e] at ht
        simp only [List.cons_append,List.cons.injEq] at ht
        obtain ⟨rfl,_⟩:=ht
        obtain ⟨q1,q2,q3,q4,q5⟩:=fin_pre (v:=v) e hp
        have hsz:(fr.finish v).tmps.size=fr.tmps.size:=by
          unfold Frame.finish
          rw [e]
          dsimp only [List.cons_append]
          split <;> simp
        exact ⟨q4.trans h.fn,q5.trans h.mode,(q3 _ (by simp)).trans h.chan,by rw [hsz];exact h.pair,by rw [hsz];exact h.flag,.body _ q1 q2⟩
    | p1 o5 e=>rw [e] at ht;simp at ht
    | p2 e=>rw [e] at ht;simp at ht
    | p3 e=>rw [e] at ht;simp at ht
    | s1 e=>rw [e] at ht;simp at ht
    | s2 e=>rw [e] at ht;simp at ht
    | s3 e=>exact absurd e (h3 _ (by simp))
    | s4 v e=>exact absurd e (h3 _ (by simp))
    | s5 e=>rw [e] at ht;simp at ht
    | s6 e=>rw [e] at ht;simp at ht
    | s7 e=>rw [e] at ht;simp at ht
  | to k' _ hk =>
    refine h.to ?_
    have hk0:=hk
    unfold Ctl at hk
    cases h.spot with
    | body pre e hp =>
      cases pre with
      | nil =>
        rw [e] at hk
        exact .s1 hk
      | cons x pre =>
        obtain ⟨pre',e',hp'⟩:=ctl_pre (ok:=L.ok) (sl:=[L.slot]) e hp hk0
        exact .body pre' e' hp'
    | p1 o5 e=>rw [e] at hk;exact .p2 hk
    | p2 e=>rw [e] at hk;exact .p3 hk
    | p3 e=>rw [e] at hk;exact .s1 hk
    | s1 e=>rw [e] at hk;exact .s2 hk
    | s2 e =>
      rw [e] at hk
      obtain ⟨l,hl,e'⟩:=hk
      rw [hl rfl,hs] at e'
      exact .s3 e'
    | s3 e=>exact absurd e (h3 _ (by simp))
    | s4 v e=>exact absurd e (h3 _ (by simp))
    | s5 e hf=>rw [e] at hk;exact .s6 hk hf
    | s6 e hf=>rw [e] at hk;exact .s7 hk hf
    | s7 e hf =>
      rw [e] at hk
      obtain ⟨v,hv,e'⟩:=hk
      rw [hf] at hv
      cases hv
      exact .body [.code .skip,.code L.body] e' (by simp [inPre,within,blocks,hb])
theorem Place.fin (h:Place L c fr) {i d:Nat} {r:List Nat} {k:List Item} (v:Value) (ht:fr.todo = .inRegion L.ops (i::r)::k) (hd:(L.ops[i]?).bind (·.dst)=some d) (hne:d ≠ L.slot) (hl:d<fr.tmps.size) (ha:(fr.finish v).todo = .inRegion L.ops r::k->(fr.finish v).eval (.tmp d)=v->At L (fr.finish v)):Place L c (fr.finish v):=by
  have hf:fr.finish v = { fr with tmps:=fr.tmps.setIfInBounds d v,todo:=.inRegion L.ops r::k }:=by
    unfold Frame.finish
    rw [ht]
    simp only [hd]
  have ha':=ha (by rw [hf]) (by rw [hf];simp [Frame.eval,hl])
  refine ⟨?_,?_,?_,?_,?_,ha'⟩
  · rw [hf];exact h.fn
  · rw [hf];exact h.mode
  · rw [hf]
    show (fr.tmps.setIfInBounds d v)[L.slot]?=_
    rw [Array.getElem?_setIfInBounds_ne hne]
    exact h.chan
  · rw [hf];simpa using h.pair
  · rw [hf];simpa using h.flag
theorem Place.take (h:Place L c fr) (e:fr.todo = .inRegion L.ops [0,1]::.code (.seq L.test L.body)::L.tail) (hd:(L.ops[0]?).bind (·.dst)=some L.pair) (hne:L.pair ≠ L.slot) (v:Value):Place L c (fr.finish (.tuple #[v,.bool true])):=
  h.fin _ e hd hne h.pair (fun a b=>.s4 v a b)
theorem Place.look (h:Place L c fr) (e:fr.todo = .inRegion L.ops [1]::.code (.seq L.test L.body)::L.tail) (hd:(L.ops[1]?).bind (·.dst)=some L.flag) (hne:L.flag ≠ L.slot):Place L c (fr.finish (.bool true)):=
  h.fin _ e hd hne h.flag (fun a b=>.s5 a b)
theorem look_step {P:Program} {main:Bool} {cs:List Frame} {w:World} {v:Value} {o:Oper} {r:List Nat} {k:List Item} (hr:fr.roundOf=none) (hkd:fr.kind = .normal) (hm:fr.mode = .run) (ht:fr.todo = .inRegion L.ops (1::r)::k) (ho:L.ops[1]?=some o) (hop:o.op = .extract (.tmp L.pair) 1)
    (hw:Region.wanted o (yielded L.ops fr.tmps)=true) (hv:fr.eval (.tmp L.pair) = .tuple #[v,.bool true]):stepG P main (Gr fr cs) w = .go (Gr (fr.finish (.bool true)) cs) w #[]:=by
  have e:(execOp fr.eval o).runT P w #[]=(.ok (.value (.bool true)) w,#[]):=by
    unfold execOp
    rw [hop]
    simp only [hv]
    rfl
  rw [step_op hr hm ht ho hw]
  simp [-Sem.runT_eq,stepG.apply,e,GStep.after,hkd,seen]
end
end Go.Proofs.YteaieagkjepgiaaGreatDoor
/- . -/
namespace Go.Proofs.YteaieagkjepgiaaGreatDoor
set_option maxRecDepth 100000
open Go.Conc
structure LpOk (P:Program) (S S':List FuncId) (L:Lp):Prop where
  ok:L.ok=okOp P S'
  sub:∀ y ∈ S',y ∈ S
  size:L.ops.size=2
  body:within L.ok [L.slot] [] L.body=true
  op0:∃ o,L.ops[0]?=some o/\(∀ x,okDy P S x o.op=false)/\o.dst=some L.pair/\∀ y,Region.wanted o y=true
  op1:∃ o,L.ops[1]?=some o/\o.op = .extract (.tmp L.pair) 1/\o.dst=some L.flag/\∀ y,Region.wanted o y=true
  pair:L.pair ≠ L.slot
  flag:L.flag ≠ L.slot
inductive Held (S':List FuncId) (Q:Frame->Prop) (L:Lp) (c:Nat) (fr:Frame) (tops:List Frame):Prop
  | top (h:Place L c fr) (hq:∀ t ∈ tops,Q t)
  | low (above:List Frame) (t:Frame) (below:List Frame) (pre:List Item) (ops:Array Oper) (i:Nat) (r:List Nat) (e:tops=above++t::below) (h:Place L c t) (ht:t.todo = .inRegion ops (i::r)::pre++L.tail) (hp:inPre L.ok [L.slot] (.inRegion ops (i::r)::pre)=true) (hs:Ord L.ok S' fr) (ha:∀ x ∈ above,Ord L.ok S' x) (hq:∀ t ∈ below,Q t)
section
variable {ok:Op->Bool} {S S':List FuncId} {Q:Frame->Prop} {T:Tables} {f:Array Func} {L:Lp} {c:Nat} {fr fr':Frame} {tops tops':List Frame} {w w':World}
theorem Held.ne (h:Held S' Q L c fr tops) (hm:fr.mode ≠ .run):tops ≠ []:=by
  cases h with
  | top h hq=>exact absurd h.mode hm
  | low above t below pre ops i r e h ht hp hs ha hq=>rw [e];simp
theorem Held.near (h:Held S' Q L c fr tops) (hL:LpOk ⟨T,f⟩ S S' L) (ho:Ord ok S fr) (hsp:¬ Spec ⟨T,f⟩ S fr tops) (hn:Near ⟨T,f⟩ S fr tops fr' tops') {X:List Frame} {es:Array Event} (hst:stepG ⟨T,f⟩ true (Gr fr (tops++X)) w = .go (Gr fr' (tops'++X)) w' es)
    (hF:∀ x ∈ S',Fine L.ok f f x) (hc:∀ ch,fr.mode ≠ .panicking ch) (hc':∀ ch,fr'.mode ≠ .panicking ch):Held S' Q L c fr' tops':=by
  obtain ⟨o0,a1,a2,a3,a4⟩:=hL.op0
  obtain ⟨o1,b1,b2,b3,b4⟩:=hL.op1
  cases h with
  | top h hq =>
    have n3:fr.todo ≠ .inRegion L.ops [0,1]::.code (.seq L.test L.body)::L.tail:=fun e=>hsp (.inr ⟨h.mode,_,_,_,_,o0,e,a1,a4 _,a2 _⟩)
    by_cases h4:∃ v,fr.todo = .inRegion L.ops [1]::.code (.seq L.test L.body)::L.tail/\fr.eval (.tmp L.pair) = .tuple #[v,.bool true]
    · obtain ⟨v,e4,ev⟩:=h4
      rw [look_step (L:=L) (P:=⟨T,f⟩) (main:=true) (cs:=tops++X) (w:=w) ho.round ho.kind h.mode e4 b1 b2 (b4 _) ev] at hst
      injection hst with q1 q2 q3
      injection q1 with q4 q5
      subst q4
      have q6:=List.append_cancel_right q5
      subst q6
      exact .top (h.look e4 (by rw [b1];exact b3) hL.flag) hq
    · have at4:∀ l,l ≠ []->(∃ pre,fr.todo=pre++L.tail/\inPre L.ok [L.slot] pre=true)\/fr.todo ≠ .inRegion L.ops l::.code (.seq L.test L.body)::L.tail:=by
        intro l hl
        cases h.spot with
        | body pre e hp=>exact .inl ⟨pre,e,hp⟩
        | p1 o5 e =>
          refine .inr fun q=>?_
          rw [e] at q
          injection q with q _
          injection q with _ q
          exact hl q.symm
        | p2 e=>rw [e];simp
        | p3 e=>rw [e];simp
        | s1 e=>rw [e];simp
        | s2 e=>rw [e];simp
        | s3 e=>exact absurd e n3
        | s4 v e ev=>exact absurd ⟨v,e,ev⟩ h4
        | s5 e=>rw [e];right;intro q;simp at q;exact hl q
        | s6 e=>rw [e];simp
        | s7 e=>rw [e];simp
      have no:∀ l,l ≠ []->fr.todo ≠ .inRegion L.ops l::.code (.seq L.test L.body)::L.tail:=by
        intro l hl e
        rcases at4 l hl with ⟨pre,e',hp⟩ | q
        · rw [e] at e'
          have:pre=[.inRegion L.ops l,.code (.seq L.test L.body)]:=by
            have:=List.append_cancel_right (as:=[Item.inRegion L.ops l,.code (.seq L.test L.body)]) (bs:=L.tail) (cs:=pre) e'
            exact this.symm
          subst this
          simp [inPre,within,blocks,Lp.test] at hp
        · exact q e
      cases hn with
      | move hm=>exact .top (h.move hL.size hL.body hm no hc') hq
      | enter x as hm ht hi hk hx =>
        cases h.spot with
        | body pre e hp =>
          cases pre with
          | nil=>rw [e] at ht;simp [Lp.tail] at ht
          | cons z pre =>
            have ht':=ht
            rw [e] at ht'
            simp only [List.cons_append,List.cons.injEq] at ht'
            obtain ⟨rfl,_⟩:=ht'
            have hop:=(Bool.and_eq_true_iff.1 (Array.all_eq_true_iff_forall_mem.1 (Bool.and_eq_true_iff.1 hp).1 _ (Array.mem_of_getElem? hi))).1
            have hy:=hx.2 S' hL.sub (okDy_of (by rw [<-hL.ok];exact hop))
            exact .low [] fr tops pre _ _ _ rfl h e hp (enter_ord hy (hF _ hy)) (fun _ q=>nomatch q) hq
        | p1 o5 e=>rw [e] at ht;simp at ht
        | p2 e=>rw [e] at ht;simp at ht
        | p3 e=>rw [e] at ht;simp at ht
        | s1 e=>rw [e] at ht;simp at ht
        | s2 e=>rw [e] at ht;simp at ht
        | s3 e=>exact absurd e n3
        | s4 v e ev=>exact absurd ⟨v,e,ev⟩ h4
        | s5 e=>rw [e] at ht;simp at ht
        | s6 e=>rw [e] at ht;simp at ht
        | s7 e=>rw [e] at ht;simp at ht
      | back v hm=>rw [h.mode] at hm;cases hm
      | up ch hm=>exact absurd hm (hc ch)
  | low above t below pre ops i r e h ht hp hs ha hq =>
    cases hn with
    | move hm=>exact .low above t below pre ops i r e h ht hp (hs.move hm) ha hq
    | enter x as hm ht' hi hk hx =>
      have hit:=hs.items _ (by rw [ht'];exact .head _)
      have hop:=Array.all_eq_true_iff_forall_mem.1 hit _ (Array.mem_of_getElem? hi)
      have hy:=hx.2 S' hL.sub (okDy_of (by rw [<-hL.ok];exact hop))
      exact .low (fr::above) t below pre ops i r (by rw [e];rfl) h ht hp (enter_ord hy (hF _ hy)) (fun y q=>by
        rcases List.mem_cons.1 q with rfl | q
        · exact hs
        · exact ha y q) hq
    | back v hm =>
      cases above with
      | nil =>
        simp only [List.nil_append,List.cons.injEq] at e
        obtain ⟨rfl,rfl⟩:=e
        obtain ⟨q1,q2,q3,q4,q5⟩:=fin_pre (v:=v) ht hp
        refine .top (h.move hL.size hL.body (.fin v h.mode ht) (fun l hl q=>?_) (fun ch=>by rw [q5,h.mode];simp)) hq
        rw [ht] at q
        have:(.inRegion ops (i::r)::pre:List Item)=[.inRegion L.ops l,.code (.seq L.test L.body)]:=List.append_cancel_right (as:=_::pre) (bs:=L.tail) (cs:=[_,_]) q
        rw [this] at hp
        simp [inPre,within,blocks,Lp.test] at hp
      | cons a above =>
        simp only [List.cons_append,List.cons.injEq] at e
        obtain ⟨rfl,e⟩:=e
        exact .low above t below pre ops i r e h ht hp ((ha _ (.head _)).finish v) (fun y q=>ha y (.tail _ q)) hq
    | up ch hm=>exact absurd hm (hc ch)
theorem okOp_mono {P:Program} (hsub:∀ y ∈ S',y ∈ S) {o:Op} (h:okOp P S' o=true):okOp P S o=true:=by
  unfold okOp at h ⊢
  split at h
  all_goals first
    | rfl
    | exact h
    | (simp only [List.contains_iff_mem] at h ⊢;exact hsub _ h)
    | (cases h;done)
theorem Held.spec (h:Held S' Q L c fr tops) (hL:LpOk ⟨T,f⟩ S S' L) (hsp:Spec ⟨T,f⟩ S fr tops):Place L c fr/\fr.todo = .inRegion L.ops [0,1]::.code (.seq L.test L.body)::L.tail/\∀ t ∈ tops,Q t:=by
  obtain ⟨o1,b1,b2,b3,b4⟩:=hL.op1
  rcases hsp with ⟨h1,h2⟩ | ⟨hm,ops',i',r',k',o,ht',ho',_,hk⟩
  · exact absurd h1 (h.ne h2)
  · have no:L.ok o.op=true->False:=fun q=>by
      rw [hL.ok] at q
      rw [okDy_of (okOp_mono hL.sub q)] at hk
      cases hk
    cases h with
    | low above t below pre ops i r e h ht hp hs ha hq =>
      exfalso
      have hit:=hs.items _ (by rw [ht'];exact .head _)
      exact no (Array.all_eq_true_iff_forall_mem.1 hit _ (Array.mem_of_getElem? ho'))
    | top h hq =>
      refine ⟨h,?_,hq⟩
      cases h.spot with
      | body pre e hp =>
        exfalso
        cases pre with
        | nil=>rw [e] at ht';simp [Lp.tail] at ht'
        | cons z pre =>
          rw [e] at ht'
          simp only [List.cons_append,List.cons.injEq] at ht'
          obtain ⟨rfl,_⟩:=ht'
          exact no (Bool.and_eq_true_iff.1 (Array.all_eq_true_iff_forall_mem.1 (Bool.and_eq_true_iff.1 hp).1 _ (Array.mem_of_getElem? ho'))).1
      | p1 o5 e=>rw [e] at ht';simp at ht'
      | p2 e=>rw [e] at ht';simp at ht'
      | p3 e=>rw [e] at ht';simp at ht'
      | s1 e=>rw [e] at ht';simp at ht'
      | s2 e=>rw [e] at ht';simp at ht'
      | s3 e=>exact e
      | s4 v e ev =>
        exfalso
        rw [e] at ht'
        simp only [List.cons.injEq,Item.inRegion.injEq] at ht'
        obtain ⟨⟨rfl,rfl,_⟩,_⟩:=ht'
        rw [b1] at ho'
        cases ho'
        rw [b2] at hk
        simp [okDy,okOp,okPan,dynTo] at hk
      | s5 e=>rw [e] at ht';simp at ht'
      | s6 e=>rw [e] at ht';simp at ht'
      | s7 e=>rw [e] at ht';simp at ht'
end
end Go.Proofs.YteaieagkjepgiaaGreatDoor
/- . -/
namespace Go.Proofs.YteaieagkjepgiaaGreatDoor
set_option maxRecDepth 100000
open Go.Conc
def Lp.loop (L:Lp):Code:=.block L.id (.loop (.seq (.region L.rid L.ops false) (.seq L.test L.body)))
def Lp.entry (L:Lp):Code:=.seq (.region L.r5 L.o5 false) L.loop
def Lp.tl (L:Lp) (k:List Item):List Item:=.inLoop (.seq (.region L.rid L.ops false) (.seq L.test L.body))::.inBlock L.id::k
def Calm (ok:Op->Bool) (Ls:List Lp):Code->Prop
  | .skip | .ret | .exit _=>True
  | .region _ ops _=>ops.all (fun o=>ok o.op)=true
  | .seq a b=>(∃ L ∈ Ls,Code.seq a b=L.entry)\/(Calm ok Ls a/\Calm ok Ls b)
  | .cond _ a b=>Calm ok Ls a/\Calm ok Ls b
  | .block _ c=>Calm ok Ls c
  | .loop c=>Calm ok Ls c
  | .scope c=>Calm ok Ls c
  | _=>False
def CalmI (ok:Op->Bool) (Ls:List Lp):Item->Prop
  | .code c=>Calm ok Ls c
  | .inBlock _=>True
  | .inLoop c=>Calm ok Ls c
  | .inScope c=>Calm ok Ls c
  | .inRegion ops _=>ops.all (fun o=>ok o.op)=true
  | _=>False
theorem calm_of {ok:Op->Bool} {Ls:List Lp}:∀ {c:Code},okCode ok c=true->Calm ok Ls c
  | .skip,_=>trivial
  | .ret,_=>trivial
  | .exit _,_=>trivial
  | .region _ _ _,h=>h
  | .seq a b,h=>by simp only [okCode,Bool.and_eq_true] at h;exact .inr ⟨calm_of h.1,calm_of h.2⟩
  | .cond _ a b,h=>by simp only [okCode,Bool.and_eq_true] at h;exact ⟨calm_of h.1,calm_of h.2⟩
  | .block _ c,h=>calm_of (c:=c) h
  | .loop c,h=>calm_of (c:=c) h
  | .scope c,h=>calm_of (c:=c) h
inductive Idle (ok:Op->Bool) (Ls:List Lp) (fr:Frame):Prop
  | plain (h:∀ i ∈ fr.todo,CalmI ok Ls i)
  | e1 (L:Lp) (hL:L ∈ Ls) (k:List Item) (hk:∀ i ∈ k,CalmI ok Ls i) (ht:fr.todo = .code (.region L.r5 L.o5 false)::.code L.loop::k)
  | e2 (L:Lp) (hL:L ∈ Ls) (k:List Item) (hk:∀ i ∈ k,CalmI ok Ls i) (j:Nat) (hj:j<L.o5.size) (ht:fr.todo = .inRegion L.o5 ((List.range L.o5.size).drop j)::.code L.loop::k)
  | o4 (L:Lp) (hL:L ∈ Ls) (k:List Item) (hk:∀ i ∈ k,CalmI ok Ls i) (z:Value) (ht:fr.todo = .inRegion L.ops [1]::.code (.seq L.test L.body)::L.tl k) (hv:fr.eval (.tmp L.pair) = .tuple #[z,.bool false]) (hl:L.flag<fr.tmps.size)
  | o5 (L:Lp) (hL:L ∈ Ls) (k:List Item) (hk:∀ i ∈ k,CalmI ok Ls i) (ht:fr.todo = .inRegion L.ops []::.code (.seq L.test L.body)::L.tl k) (hf:fr.eval (.tmp L.flag) = .bool false)
  | o6 (L:Lp) (hL:L ∈ Ls) (k:List Item) (hk:∀ i ∈ k,CalmI ok Ls i) (ht:fr.todo = .code (.seq L.test L.body)::L.tl k) (hf:fr.eval (.tmp L.flag) = .bool false)
  | o7 (L:Lp) (hL:L ∈ Ls) (k:List Item) (hk:∀ i ∈ k,CalmI ok Ls i) (ht:fr.todo = .code L.test::.code L.body::L.tl k) (hf:fr.eval (.tmp L.flag) = .bool false)
  | o8 (L:Lp) (hL:L ∈ Ls) (k:List Item) (hk:∀ i ∈ k,CalmI ok Ls i) (ht:fr.todo = .code (.exit L.id)::.code L.body::L.tl k)
section
variable {ok:Op->Bool} {Ls:List Lp} {fr fr':Frame}
theorem calm_ctl {k':List Item} (h:∀ i ∈ fr.todo,CalmI ok Ls i) (hc:Ctl fr k'):(∀ i ∈ k',CalmI ok Ls i)\/∃ L ∈ Ls,∃ k,(∀ i ∈ k,CalmI ok Ls i)/\k' = .code (.region L.r5 L.o5 false)::.code L.loop::k:=by
  unfold Ctl at hc
  have cons:∀ {a:Item} {k:List Item},CalmI ok Ls a->(∀ i ∈ k,CalmI ok Ls i)->∀ i ∈ a::k,CalmI ok Ls i:=by
    intro a k ha hk i hi
    rcases List.mem_cons.1 hi with rfl | hi
    · exact ha
    · exact hk i hi
  cases ht:fr.todo with
  | nil=>rw [ht] at hc;exact hc.elim
  | cons x k =>
    rw [ht] at hc h
    have hx:=h x (.head _)
    have hk:∀ i ∈ k,CalmI ok Ls i:=fun i q=>h i (.tail _ q)
    cases x with
    | inBlock id=>exact .inl (hc ▸ hk)
    | inScope c=>exact .inl (hc ▸ hk)
    | inLoop c=>exact .inl (hc ▸ cons (a:=.code c) hx (cons hx hk))
    | inRegion ops l =>
      cases l with
      | nil=>exact .inl (hc ▸ hk)
      | cons i r=>exact hc.elim
    | code c =>
      cases c with
      | skip=>exact .inl (hc ▸ hk)
      | seq a b =>
        rcases hx with ⟨L,hL,e⟩ | ⟨h1,h2⟩
        · injection e with e1 e2
          subst e1 e2
          exact .inr ⟨L,hL,k,hk,hc⟩
        · exact .inl (hc ▸ cons (a:=.code a) h1 (cons (a:=.code b) h2 hk))
      | cond c a b =>
        obtain ⟨v,_,e⟩:=hc
        rw [e]
        exact .inl (cons (by cases v;exact hx.2;exact hx.1) hk)
      | block id c=>exact .inl (hc ▸ cons (a:=.code c) hx (cons (a:=.inBlock id) trivial hk))
      | loop c=>exact .inl (hc ▸ cons (a:=.code c) hx (cons (a:=.inLoop c) hx hk))
      | scope c=>exact .inl (hc ▸ cons (a:=.code c) hx (cons (a:=.inScope c) hx hk))
      | exit id=>exact .inl (fun i q=>hk i (exitTo_sub hc i q))
      | region id ops d =>
        obtain ⟨l,_,e⟩:=hc
        rw [e]
        exact .inl (cons hx hk)
      | _=>exact hc.elim
    | _=>exact hc.elim
end
end Go.Proofs.YteaieagkjepgiaaGreatDoor
/- . -/
namespace Go.Proofs.YteaieagkjepgiaaGreatDoor
set_option maxRecDepth 100000
open Go.Conc
structure LqOk (P:Program) (S:List FuncId) (L:Lp):Prop where
  pos:0<L.o5.size
  last:∃ o,L.o5[L.o5.size - 1]?=some o/\(∀ x,okDy P S x o.op=false)/\∀ y,Region.wanted o y=true
  op1:∃ o,L.ops[1]?=some o/\o.op = .extract (.tmp L.pair) 1/\o.dst=some L.flag/\∀ y,Region.wanted o y=true
inductive IdleT (ok:Op->Bool) (Ls:List Lp) (fr:Frame):Prop
  | plain (h:∀ i ∈ fr.todo,CalmI ok Ls i)
  | e2 (L:Lp) (hL:L ∈ Ls) (k:List Item) (hk:∀ i ∈ k,CalmI ok Ls i) (j:Nat) (hj:j+1<L.o5.size) (ht:fr.todo = .inRegion L.o5 ((List.range L.o5.size).drop j)::.code L.loop::k)
section
variable {ok:Op->Bool} {Ls:List Lp} {S:List FuncId} {P:Program} {fr fr':Frame} {tops tops':List Frame} {w w':World}
theorem Idle.as (h:Idle ok Ls fr) (h1:fr'.todo=fr.todo) (h2:fr'.tmps=fr.tmps):Idle ok Ls fr':=by
  have h3:∀ t,fr'.eval (.tmp t)=fr.eval (.tmp t):=fun t=>by simp [Frame.eval,h2]
  cases h with
  | plain h=>exact .plain (h1 ▸ h)
  | e1 L hL k hk ht=>exact .e1 L hL k hk (h1.trans ht)
  | e2 L hL k hk j hj ht=>exact .e2 L hL k hk j hj (h1.trans ht)
  | o4 L hL k hk z ht hv hl=>exact .o4 L hL k hk z (h1.trans ht) ((h3 _).trans hv) (h2 ▸ hl)
  | o5 L hL k hk ht hf=>exact .o5 L hL k hk (h1.trans ht) ((h3 _).trans hf)
  | o6 L hL k hk ht hf=>exact .o6 L hL k hk (h1.trans ht) ((h3 _).trans hf)
  | o7 L hL k hk ht hf=>exact .o7 L hL k hk (h1.trans ht) ((h3 _).trans hf)
  | o8 L hL k hk ht=>exact .o8 L hL k hk (h1.trans ht)
theorem drop_at {n j:Nat} (h:j<n):(List.range n).drop j=j::(List.range n).drop (j+1):=by
  rw [List.drop_eq_getElem_cons (by simpa using h)]
  simp
theorem IdleT.fin (h:IdleT ok Ls fr) (v:Value) (hm:fr.mode = .run) {ops:Array Oper} {i:Nat} {r:List Nat} {k:List Item} (ht:fr.todo = .inRegion ops (i::r)::k):Idle ok Ls (fr.finish v):=by
  have hf:(fr.finish v).todo = .inRegion ops r::k:=by
    unfold Frame.finish
    rw [ht]
  cases h with
  | plain h =>
    refine .plain (fun x hx=>?_)
    rw [hf] at hx
    rw [ht] at h
    rcases List.mem_cons.1 hx with rfl | hx
    · exact h (.inRegion ops (i::r)) (.head _)
    · exact h x (.tail _ hx)
  | e2 L hL k' hk j hj e =>
    rw [e,drop_at (by omega)] at ht
    simp only [List.cons.injEq,Item.inRegion.injEq] at ht
    obtain ⟨⟨rfl,rfl,rfl⟩,rfl⟩:=ht
    exact .e2 L hL k' hk _ hj hf
theorem unlook_step {main:Bool} {cs:List Frame} {v:Value} {L:Lp} {o:Oper} {r:List Nat} {k:List Item} (hr:fr.roundOf=none) (hkd:fr.kind = .normal) (hm:fr.mode = .run) (ht:fr.todo = .inRegion L.ops (1::r)::k) (ho:L.ops[1]?=some o) (hop:o.op = .extract (.tmp L.pair) 1)
    (hw:Region.wanted o (yielded L.ops fr.tmps)=true) (hv:fr.eval (.tmp L.pair) = .tuple #[v,.bool false]):stepG P main (Gr fr cs) w = .go (Gr (fr.finish (.bool false)) cs) w #[]:=by
  have e:(execOp fr.eval o).runT P w #[]=(.ok (.value (.bool false)) w,#[]):=by
    unfold execOp
    rw [hop]
    simp only [hv]
    rfl
  rw [step_op hr hm ht ho hw]
  simp [-Sem.runT_eq,stepG.apply,e,GStep.after,hkd,seen]
theorem Idle.move (h:Idle ok Ls fr) (hLs:∀ L ∈ Ls,LqOk P S L) (hsp:¬ Spec P S fr tops) (hm:Move fr fr') (h4:∀ L ∈ Ls,∀ k z,fr.todo = .inRegion L.ops [1]::.code (.seq L.test L.body)::L.tl k->fr.eval (.tmp L.pair) = .tuple #[z,.bool false]->fr'=fr.finish (.bool false)):Idle ok Ls fr':=by
  cases hm with
  | same=>exact h
  | ret _ _=>exact h.as rfl rfl
  | raise ch=>unfold Frame.raise;split <;> exact h.as rfl rfl
  | fin v hmd ht =>
    cases h with
    | plain h=>exact (IdleT.plain h).fin v hmd ht
    | e1 L hL k hk e=>rw [e] at ht;simp at ht
    | e2 L hL k hk j hj e =>
      rcases Nat.lt_or_ge (j+1) L.o5.size with hlt | hge
      · exact (IdleT.e2 L hL k hk j hlt e).fin v hmd ht
      · exfalso
        obtain ⟨o,ho,hok,hw⟩:=(hLs L hL).last
        rw [drop_at hj] at e
        exact hsp (.inr ⟨hmd,_,_,_,_,o,e,by rw [<-ho];congr 1;omega,hw _,hok _⟩)
    | o4 L hL k hk z e hv hl =>
      rw [h4 L hL k z e hv]
      obtain ⟨o,ho,_,hd,_⟩:=(hLs L hL).op1
      have hf:fr.finish (.bool false) = { fr with tmps:=fr.tmps.setIfInBounds L.flag (.bool false),todo:=.inRegion L.ops []::.code (.seq L.test L.body)::L.tl k }:=by
        unfold Frame.finish
        rw [e]
        simp [ho,hd]
      exact .o5 L hL k hk (by rw [hf]) (by rw [hf];simp [Frame.eval,hl])
    | o5 L hL k hk e hf=>rw [e] at ht;simp at ht
    | o6 L hL k hk e hf=>rw [e] at ht;simp at ht
    | o7 L hL k hk e hf=>rw [e] at ht;simp at ht
    | o8 L hL k hk e=>rw [e] at ht;simp at ht
  | to k' hmd hc =>
    have hc0:=hc
    unfold Ctl at hc
    cases h with
    | plain h =>
      rcases calm_ctl h hc0 with q | ⟨L,hL,k,hk,e⟩
      · exact .plain q
      · exact .e1 L hL k hk e
    | e1 L hL k hk e =>
      rw [e] at hc
      obtain ⟨l,hl,e'⟩:=hc
      rw [hl rfl] at e'
      exact .e2 L hL k hk 0 (hLs L hL).pos e'
    | e2 L hL k hk j hj e=>rw [e,drop_at hj] at hc;exact hc.elim
    | o4 L hL k hk z e hv hl=>rw [e] at hc;exact hc.elim
    | o5 L hL k hk e hf=>rw [e] at hc;exact .o6 L hL k hk hc hf
    | o6 L hL k hk e hf=>rw [e] at hc;exact .o7 L hL k hk hc hf
    | o7 L hL k hk e hf =>
      rw [e] at hc
      obtain ⟨v,hv,e'⟩:=hc
      rw [hf] at hv
      cases hv
      exact .o8 L hL k hk e'
    | o8 L hL k hk e =>
      rw [e] at hc
      have:exitTo L.id (.code L.body::L.tl k)=some k':=hc
      simp [exitTo,Lp.tl] at this
      subst this
      exact .plain hk
structure Waits (ok:Op->Bool) (Ls:List Lp) (t:Frame):Prop where
  idle:IdleT ok Ls t
  mode:t.mode = .run
  spot:∃ ops i r k,t.todo = .inRegion ops (i::r)::k
end
end Go.Proofs.YteaieagkjepgiaaGreatDoor
/- . -/
namespace Go.Proofs.YteaieagkjepgiaaGreatDoor
set_option maxRecDepth 100000
open Go.Conc
section
variable {Ls:List Lp} {S:List FuncId} {P:Program} {fr fr':Frame} {tops tops':List Frame} {w w':World}
theorem Idle.spec (h:Idle (okDy P S fr.fn) Ls fr) (hLs:∀ L ∈ Ls,LqOk P S L) (hm:fr.mode = .run) (hsp:Spec P S fr tops) (h5:∀ L ∈ Ls,∀ j o,j+1<L.o5.size->L.o5[j]?=some o->okDy P S fr.fn o.op=true) :
    ∃ L ∈ Ls,∃ k,(∀ i ∈ k,CalmI (okDy P S fr.fn) Ls i)/\fr.todo = .inRegion L.o5 [L.o5.size - 1]::.code L.loop::k:=by
  rcases hsp with ⟨_,h2⟩ | ⟨_,ops',i',r',k',o,ht',ho',_,hk⟩
  · exact absurd hm h2
  · cases h with
    | plain h =>
      exfalso
      have:=h _ (by rw [ht'];exact .head _)
      have:=Array.all_eq_true_iff_forall_mem.1 this _ (Array.mem_of_getElem? ho')
      rw [hk] at this
      cases this
    | e1 L hL k hk' e=>rw [e] at ht';simp at ht'
    | e2 L hL k hk' j hj e =>
      refine ⟨L,hL,k,hk',?_⟩
      have e2:=e
      rw [e,drop_at hj] at ht'
      simp only [List.cons.injEq,Item.inRegion.injEq] at ht'
      obtain ⟨⟨rfl,rfl,_⟩,_⟩:=ht'
      rcases Nat.lt_or_ge (j+1) L.o5.size with hlt | hge
      · rw [h5 L hL j o hlt ho'] at hk
        cases hk
      · have:j=L.o5.size - 1:=by omega
        subst this
        rw [e2,drop_at hj,List.drop_eq_nil_of_le (by simp;omega)]
    | o4 L hL k hk' z e hv hl =>
      exfalso
      obtain ⟨o1,b1,b2,_⟩:=(hLs L hL).op1
      rw [e] at ht'
      simp only [List.cons.injEq,Item.inRegion.injEq] at ht'
      obtain ⟨⟨rfl,rfl,_⟩,_⟩:=ht'
      rw [b1] at ho'
      cases ho'
      rw [b2] at hk
      simp [okDy,okOp,okPan,dynTo] at hk
    | o5 L hL k hk' e hf=>rw [e] at ht';simp at ht'
    | o6 L hL k hk' e hf=>rw [e] at ht';simp at ht'
    | o7 L hL k hk' e hf=>rw [e] at ht';simp at ht'
    | o8 L hL k hk' e=>rw [e] at ht';simp at ht'
theorem made_place {L:Lp} {k:List Item} (c:Nat) (hm:fr.mode = .run) (hf:fr.fn=L.fn) (e:fr.todo = .inRegion L.o5 [L.o5.size - 1]::.code L.loop::k) (hd:(L.o5[L.o5.size - 1]?).bind (·.dst)=some L.slot) (h1:L.slot<fr.tmps.size) (h2:L.pair<fr.tmps.size) (h3:L.flag<fr.tmps.size) :
    Place { L with rest:=k } c (fr.finish (.chan (some c))):=by
  have hfin:fr.finish (.chan (some c)) = { fr with tmps:=fr.tmps.setIfInBounds L.slot (.chan (some c)),todo:=.inRegion L.o5 []::.code L.loop::k }:=by
    unfold Frame.finish
    rw [e]
    simp only [hd]
  rw [hfin]
  exact ⟨hf,hm,by simp [h1],by simpa using h2,by simpa using h3,.p1 L.o5 rfl⟩
theorem shut_idle {ok:Op->Bool} {L:Lp} {c:Nat} {k:List Item} (hL:L ∈ Ls) (hk:∀ i ∈ k,CalmI ok Ls i) (h:Place { L with rest:=k } c fr) (e:fr.todo = .inRegion L.ops [0,1]::.code (.seq L.test L.body)::L.tl k) (hd:(L.ops[0]?).bind (·.dst)=some L.pair) (z:Value):Idle ok Ls (fr.finish (.tuple #[z,.bool false])):=by
  have hfin:fr.finish (.tuple #[z,.bool false]) = { fr with tmps:=fr.tmps.setIfInBounds L.pair (.tuple #[z,.bool false]),todo:=.inRegion L.ops [1]::.code (.seq L.test L.body)::L.tl k }:=by
    unfold Frame.finish
    rw [e]
    simp only [hd]
  have hp:L.pair<fr.tmps.size:=h.pair
  have hfl:L.flag<fr.tmps.size:=h.flag
  rw [hfin]
  exact .o4 L hL k hk z rfl (by simp [Frame.eval,hp]) (by simpa using hfl)
end
end Go.Proofs.YteaieagkjepgiaaGreatDoor
/- . -/
namespace Go.Proofs.YteaieagkjepgiaaGreatDoor
set_option maxRecDepth 100000
open Go.Conc
section
variable {ok:Op->Bool} {F:FuncId->List Lp} {S S':List FuncId} {T:Tables} {f g:Array Func} {P:Program} {fr fr':Frame} {tops tops':List Frame} {w w':World}
theorem finish_fn (fr:Frame) (v:Value):(fr.finish v).fn=fr.fn:=by
  unfold Frame.finish
  split <;> rfl
theorem raise_fn (fr:Frame) (ch:List PanicEntry):(fr.raise ch).fn=fr.fn:=by
  unfold Frame.raise
  split <;> rfl
theorem finish_size (fr:Frame) (v:Value) (hx:∀ r a k,fr.todo ≠ .extern r a::k):(fr.finish v).tmps.size=fr.tmps.size:=by
  unfold Frame.finish
  split
  · dsimp only
    split <;> simp
  all_goals first
    | rfl
    | (rename_i e;exact absurd e (hx _ _ _))
theorem ord_extern {okk:Op->Bool} (h:Ord okk S fr):∀ r a k,fr.todo ≠ .extern r a::k:=fun r a k e=>by
  have:=h.items _ (by rw [e];exact .head _)
  simp [okItem] at this
theorem raise_size (fr:Frame) (ch:List PanicEntry):(fr.raise ch).tmps.size=fr.tmps.size:=by
  unfold Frame.raise
  split <;> rfl
theorem move_fn (h:Move fr fr'):fr'.fn=fr.fn:=by
  cases h with
  | same=>rfl
  | fin v _ _=>exact finish_fn _ _
  | to k' _ _=>rfl
  | ret _ _=>rfl
  | raise ch=>exact raise_fn _ _
theorem move_size (h:Move fr fr'):fr'.tmps.size=fr.tmps.size:=by
  cases h with
  | same=>rfl
  | fin v _ ht=>exact finish_size _ _ (fun r a k e=>by rw [ht] at e;cases e)
  | to k' _ _=>rfl
  | ret _ _=>rfl
  | raise ch=>exact raise_size _ _
def Sz (P:Program) (fr:Frame):Prop:=∀ fn,P.funcs[fr.fn]?=some fn->fn.ntmps<=fr.tmps.size
theorem sz_near {okk:Op->Bool} (h:Sz P fr) (ht:∀ t ∈ tops,Sz P t) (ho:∀ t ∈ tops,Ord okk S t/\t.mode = .run) (hn:Near P S fr tops fr' tops'):Sz P fr'/\∀ t ∈ tops',Sz P t:=by
  cases hn with
  | move hm =>
    refine ⟨fun fn e=>?_,ht⟩
    rw [move_size hm]
    exact h fn (by rw [<-move_fn hm];exact e)
  | enter x as hm e hi hk hx =>
    refine ⟨fun fn q=>?_,fun t q=>?_⟩
    · have q':P.funcs[x]?=some fn:=q
      simp only [Frame.enter,q',Option.map_some,Option.getD_some,Array.size_append,Array.size_replicate]
      omega
    · rcases List.mem_cons.1 q with rfl | q
      · exact h
      · exact ht t q
  | back v hm =>
    refine ⟨fun fn e=>?_,fun t q=>ht t (.tail _ q)⟩
    rw [finish_size _ _ (ord_extern (ho _ (.head _)).1)]
    exact ht _ (.head _) fn (by rw [finish_fn] at e;exact e)
  | up ch hm =>
    refine ⟨fun fn e=>?_,fun t q=>ht t (.tail _ q)⟩
    rw [raise_size]
    exact ht _ (.head _) fn (by rw [raise_fn] at e;exact e)
theorem Idle.nearF {okk:Op->Bool} {okf:FuncId->Op->Bool} (h:Idle (okf fr.fn) (F fr.fn) fr) (ht:∀ t ∈ tops,Waits (okf t.fn) (F t.fn) t) (hLs:∀ x,∀ L ∈ F x,LqOk P S L) (hsp:¬ Spec P S fr tops) (ho:Ord okk S fr) (hn:Near P S fr tops fr' tops') {X:List Frame} {es:Array Event} (hst:stepG P true (Gr fr (tops++X)) w = .go (Gr fr' (tops'++X)) w' es)
    (hent:∀ x ∈ S,∀ as,Idle (okf x) (F x) (Frame.enter P x as .normal)) (hc:∀ ch,fr.mode ≠ .panicking ch):Idle (okf fr'.fn) (F fr'.fn) fr'/\∀ t ∈ tops',Waits (okf t.fn) (F t.fn) t:=by
  have o4:∀ L ∈ F fr.fn,∀ k z,fr.mode = .run->fr.todo = .inRegion L.ops [1]::.code (.seq L.test L.body)::L.tl k->fr.eval (.tmp L.pair) = .tuple #[z,.bool false]->fr'=fr.finish (.bool false)/\tops'++X=tops++X:=by
    intro L hL k z hm e hv
    obtain ⟨o,b1,b2,_,b4⟩:=(hLs _ L hL).op1
    rw [unlook_step (P:=P) (main:=true) (cs:=tops++X) (w:=w) ho.round ho.kind hm e b1 b2 (b4 _) hv] at hst
    injection hst with q1 q2 q3
    injection q1 with q4 q5
    exact ⟨q4.symm,q5.symm⟩
  cases hn with
  | move hm =>
    rw [move_fn hm]
    by_cases hmd:fr.mode = .run
    · exact ⟨h.move (hLs _) hsp hm (fun L hL k z e hv=>(o4 L hL k z hmd e hv).1),ht⟩
    · refine ⟨?_,ht⟩
      cases hm with
      | same=>exact h
      | raise ch=>unfold Frame.raise;split <;> exact h.as rfl rfl
      | ret q _=>exact absurd q hmd
      | fin v q _=>exact absurd q hmd
      | to k' q _=>exact absurd q hmd
  | enter x as hm e hi hk hx =>
    refine ⟨hent x hx.1 as,fun t hq=>?_⟩
    rcases List.mem_cons.1 hq with rfl | hq
    · refine ⟨?_,hm,_,_,_,_,e⟩
      cases h with
      | plain h=>exact .plain h
      | e1 L hL k hk' e'=>rw [e'] at e;simp at e
      | e2 L hL k hk' j hj e' =>
        refine .e2 L hL k hk' j ?_ e'
        rcases Nat.lt_or_ge (j+1) L.o5.size with hlt | hge
        · exact hlt
        · exfalso
          obtain ⟨o,q1,q2,_⟩:=(hLs _ L hL).last
          rw [e',drop_at hj] at e
          simp only [List.cons.injEq,Item.inRegion.injEq] at e
          obtain ⟨⟨rfl,rfl,_⟩,_⟩:=e
          have:L.o5.size - 1=j:=by omega
          rw [this,hi] at q1
          cases q1
          rw [q2] at hk
          cases hk
      | o4 L hL k hk' z e' hv hl =>
        exfalso
        obtain ⟨_,q⟩:=o4 L hL k z hm e' hv
        have:=congrArg List.length q
        simp at this
      | o5 L hL k hk' e' hf=>rw [e'] at e;simp at e
      | o6 L hL k hk' e' hf=>rw [e'] at e;simp at e
      | o7 L hL k hk' e' hf=>rw [e'] at e;simp at e
      | o8 L hL k hk' e'=>rw [e'] at e;simp at e
    · exact ht t hq
  | back v hm =>
    have hw:=ht _ (.head _)
    obtain ⟨ops,i,r,k,e⟩:=hw.spot
    refine ⟨?_,fun t q=>ht t (.tail _ q)⟩
    rw [finish_fn]
    exact hw.idle.fin v hw.mode e
  | up ch hm=>exact absurd hm (hc ch)
theorem LpOk.rest {L:Lp} (h:LpOk P S S' L) (k:List Item):LpOk P S S' { L with rest:=k }:=⟨h.ok,h.sub,h.size,h.body,h.op0,h.op1,h.pair,h.flag⟩
end
end Go.Proofs.YteaieagkjepgiaaGreatDoor
/- . -/
namespace Go.Proofs.YteaieagkjepgiaaGreatDoor
set_option maxRecDepth 100000
open Go.Conc
def slCall (x:FuncId) (o:Op):Bool:=
  match o with
  | .call { callee:=.value (.func y),args:=as,.. }=>(List.range as.size).all fun p=>match slotK y p with
    | none=>true
    | some k=>match as[p]? with
      | some (.tmp s)=>slotK x s==some k
      | some (.func z)=>k == .fn z
      | _=>false
  | _=>true
def slMake (x:FuncId) (k:VK) (o:Op):Bool:=
  match o with
  | .makeFunc (.func y) _ _=>k == .fn y
  | .makeInterface t _=>k == .ifc t
  | .move (.tmp s)=>slotK x s==some k
  | .assign (.tmp s)=>slotK x s==some k
  | _=>false
def slOper (x:FuncId) (o:Oper):Bool:=slCall x o.op&&(match o.dst with
  | none=>true
  | some s=>match slotK x s with
    | none=>true
    | some k=>slMake x k o.op)
def slCode (x:FuncId):Code->Bool
  | .skip | .ret | .exit _=>true
  | .region _ ops _=>ops.all (slOper x)
  | .seq a b=>slCode x a&&slCode x b
  | .cond _ a b=>slCode x a&&slCode x b
  | .block _ c=>slCode x c
  | .loop c=>slCode x c
  | .scope c=>slCode x c
  | _=>false
def slItem (x:FuncId):Item->Bool
  | .code c=>slCode x c
  | .inBlock _=>true
  | .inLoop c=>slCode x c
  | .inScope c=>slCode x c
  | .inRegion ops _=>ops.all (slOper x)
  | _=>false
structure Gd (fr:Frame):Prop where
  val:Gv fr.fn fr.eval
  items:∀ i ∈ fr.todo,slItem fr.fn i=true
def isCall (o:Op):Bool:=match o with
  | .call _=>true
  | _=>false
structure Gw (t:Frame):Prop where
  gd:Gd t
  call:∃ ops i r k o,t.todo = .inRegion ops (i::r)::k/\ops[i]?=some o/\isCall o.op=true
section
variable {okk:Op->Bool} {S:List FuncId} {T:Tables} {f g:Array Func} {P:Program} {fr fr':Frame} {tops tops':List Frame} {w w':World}
theorem vk_undef (k:VK):VK.ok k undef:=by cases k <;> exact .inl rfl
theorem oper_of (h:∀ i ∈ fr.todo,slItem fr.fn i=true) {ops:Array Oper} {l:List Nat} {k:List Item} {i:Nat} {o:Oper} (e:fr.todo = .inRegion ops l::k) (ho:ops[i]?=some o):slOper fr.fn o=true:=by
  have hi:=h _ (by rw [e];exact .head _)
  exact Array.all_eq_true_iff_forall_mem.1 hi _ (Array.mem_of_getElem? ho)
theorem Gd.set (h:Gd fr) {d:Nat} {v:Value} (hv:∀ k,slotK fr.fn d=some k->VK.ok k v):Gv fr.fn (fun o=>Frame.eval { fr with tmps:=fr.tmps.setIfInBounds d v } o):=by
  intro s k hk
  show VK.ok k ((fr.tmps.setIfInBounds d v).getD s undef)
  by_cases e:d=s
  · subst e
    by_cases hlt:d<fr.tmps.size
    · have:(fr.tmps.setIfInBounds d v).getD d undef=v:=by simp [Array.getD_eq_getD_getElem?,hlt]
      rw [this]
      exact hv k hk
    · have:(fr.tmps.setIfInBounds d v).getD d undef=undef:=by simp [Array.getD_eq_getD_getElem?,hlt]
      rw [this]
      exact vk_undef k
  · have:(fr.tmps.setIfInBounds d v).getD s undef=fr.tmps.getD s undef:=by simp [Array.getD_eq_getD_getElem?,Array.getElem?_setIfInBounds_ne e]
    rw [this]
    exact h.val s k hk
theorem Gd.finish (h:Gd fr) (v:Value) (hne:∀ r a k,fr.todo ≠ .extern r a::k) (hv:∀ ops i r k o s kk,fr.todo = .inRegion ops (i::r)::k->ops[i]?=some o->o.dst=some s->slotK fr.fn s=some kk->VK.ok kk v):Gd (fr.finish v):=by
  have hi:=h.items
  unfold Frame.finish
  split
  · rename_i ops i rest k e
    refine ⟨?_,fun x hx=>?_⟩
    · cases ho:(ops[i]?).bind (·.dst) with
      | none=>exact h.val
      | some d =>
        obtain ⟨o,h1,h2⟩:=Option.bind_eq_some_iff.1 ho
        exact h.set (fun kk hk=>hv _ _ _ _ _ _ _ e h1 h2 hk)
    · rcases List.mem_cons.1 hx with rfl | hx
      · exact hi (.inRegion ops (i::rest)) (by rw [e];exact .head _)
      · exact hi x (by rw [e];exact .tail _ hx)
  all_goals first
    | exact h
    | (rename_i e;exact absurd e (hne _ _ _))
    | (rename_i e
       have:=hi _ (by rw [e];exact .head _)
       simp [slItem] at this)
theorem Gd.raise (h:Gd fr) (ch:List PanicEntry):Gd (fr.raise ch):=by
  unfold Frame.raise
  split <;> exact ⟨h.val,h.items⟩
theorem Gd.ctl (h:Gd fr) {k':List Item} (hc:Ctl fr k'):Gd { fr with todo:=k' }:=by
  refine ⟨h.val,?_⟩
  have hi:=h.items
  show ∀ i ∈ k',slItem fr.fn i=true
  unfold Ctl at hc
  have two:∀ {a b:Item} {k:List Item},slItem fr.fn a=true->slItem fr.fn b=true->(∀ i ∈ k,slItem fr.fn i=true)->∀ i ∈ a::b::k,slItem fr.fn i=true:=by
    intro a b k ha hb hk i q
    rcases List.mem_cons.1 q with rfl | q
    · exact ha
    · rcases List.mem_cons.1 q with rfl | q
      · exact hb
      · exact hk i q
  have one:∀ {a:Item} {k:List Item},slItem fr.fn a=true->(∀ i ∈ k,slItem fr.fn i=true)->∀ i ∈ a::k,slItem fr.fn i=true:=by
    intro a k ha hk i q
    rcases List.mem_cons.1 q with rfl | q
    · exact ha
    · exact hk i q
  split at hc
  all_goals first
    | (rename_i e;rw [e] at hi;have hk:=fun i q=>hi i (.tail _ q);have h0:=hi _ (.head _))
    | skip
  all_goals first
    | (subst hc;exact hk)
    | (subst hc;exact two h0 h0 hk)
    | (subst hc;exact one h0 hk)
    | (subst hc;exact two h0 (by rfl) hk)
    | (subst hc;exact two (Bool.and_eq_true_iff.1 h0).1 (Bool.and_eq_true_iff.1 h0).2 hk)
    | (obtain ⟨l,_,rfl⟩:=hc;exact one h0 hk)
    | (obtain ⟨v,_,rfl⟩:=hc;exact one (by cases v <;> first | exact (Bool.and_eq_true_iff.1 h0).1 | exact (Bool.and_eq_true_iff.1 h0).2) hk)
    | (exact fun i q=>hk i (exitTo_sub hc i q))
    | exact hc.elim
theorem not_slotted (h:Gd fr) {ops:Array Oper} {l:List Nat} {k:List Item} {i:Nat} {o:Oper} (e:fr.todo = .inRegion ops l::k) (ho:ops[i]?=some o) (hm:∀ kk,slMake fr.fn kk o.op=false) {s:Nat} {kk:VK} (hd:o.dst=some s):slotK fr.fn s ≠ some kk:=by
  intro hk
  have:=(Bool.and_eq_true_iff.1 (oper_of h.items e ho)).2
  rw [hd] at this
  dsimp only at this
  rw [hk] at this
  dsimp only at this
  rw [hm] at this
  cases this
theorem Gd.fin (h:Gd fr) {ops:Array Oper} {i:Nat} {r:List Nat} {k:List Item} {o:Oper} (e:fr.todo = .inRegion ops (i::r)::k) (ho:ops[i]?=some o) (hm:∀ kk,slMake fr.fn kk o.op=false) (v:Value):Gd (fr.finish v):=
  h.finish v (fun _ _ _ q=>by rw [e] at q;cases q) (fun ops' i' r' k' o' s kk q ho' hd hk=>by
    rw [e] at q
    cases q
    rw [ho] at ho'
    cases ho'
    exact absurd hk (not_slotted h e ho hm hd))
theorem make_call {x:FuncId} {o:Op} (h:isCall o=true) (kk:VK):slMake x kk o=false:=by
  unfold isCall at h
  split at h
  · rfl
  · cases h
theorem Gw.finish {t:Frame} (h:Gw t) (v:Value):Gd (t.finish v):=by
  obtain ⟨ops,i,r,k,o,e,ho,hc⟩:=h.call
  exact h.gd.fin e ho (make_call hc) v
end
end Go.Proofs.YteaieagkjepgiaaGreatDoor
