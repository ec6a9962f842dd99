/- Texts of ours, laid one behind the other: SeA, SeB, SeC. -/
import Derived.Conc.Beside
import Derived.Conc.Events
set_option linter.unusedVariables false
set_option linter.unusedSimpArgs false
/- . -/
namespace Go.Proofs.YteaieagkjepgiaaGreatDoor
set_option maxRecDepth 100000
open Go.Conc
structure Sim (x:Option Nat) (w w₁:World):Prop where
  os:w₁.os=w.os
  output:w₁.output=w.output
  size:w₁.heap.size=w.heap.size
  block:∀ b:Nat,w₁.heap[b]?=w.heap[b]?\/((∃ N,x=some N/\N<=b)/\(∃ c bf cl s r t,w.heap[b]?=some (.chan c bf cl s r t))/\∃ c bf cl s r t,w₁.heap[b]?=some (.chan c bf cl s r t))
variable {x:Option Nat}
theorem Sim.refl (w:World):Sim x w w:=⟨rfl,rfl,rfl,fun _=>.inl rfl⟩
theorem Sim.draw {w w₁:World} (h:Sim x w w₁) (d d₁:Nat):Sim x { w with drawn:=d } { w₁ with drawn:=d₁ }:=⟨h.os,h.output,h.size,h.block⟩
theorem Sim.cell? {w w₁:World} (h:Sim x w w₁) (a:Addr):w₁.cell? a=w.cell? a:=by
  unfold World.cell?
  rcases h.block a.block with e | ⟨_,⟨_,_,_,_,_,_,e1⟩,⟨_,_,_,_,_,_,e2⟩⟩
  · rw [e]
  · rw [e1,e2]
theorem Sim.frozen? {w w₁:World} (h:Sim x w w₁) (a:Addr):w₁.frozen? a=w.frozen? a:=by
  unfold World.frozen?
  rcases h.block a.block with e | ⟨_,⟨_,_,_,_,_,_,e1⟩,⟨_,_,_,_,_,_,e2⟩⟩
  · rw [e]
  · rw [e1,e2]
theorem Sim.shape? {w w₁:World} (h:Sim x w w₁) (r:Nat):w₁.shape? r=w.shape? r:=by
  unfold World.shape?
  rcases h.block r with e | ⟨_,⟨_,_,_,_,_,_,e1⟩,⟨_,_,_,_,_,_,e2⟩⟩
  · rw [e]
  · rw [e1,e2]
theorem Sim.noCell {w w₁:World} (h:Sim x w w₁) (a:Addr) (s:String):w₁.noCell a s=w.noCell a s:=by
  unfold World.noCell
  rcases h.block a.block with e | ⟨_,⟨_,_,_,_,_,_,e1⟩,⟨_,_,_,_,_,_,e2⟩⟩
  · rw [e]
  · rw [e1,e2]
theorem Sim.seen {w w₁:World} (h:Sim x w w₁) (p:Program) (at_:Addr) (u:TypeId) (k:Addr) (b:Bool):w₁.seen p at_ u k b=w.seen p at_ u k b:=by
  unfold World.seen
  rcases h.block at_.block with e | ⟨_,⟨_,_,_,_,_,_,e1⟩,⟨_,_,_,_,_,_,e2⟩⟩
  · rw [e]
  · rw [e1,e2]
theorem Sim.farLoad {w w₁:World} (h:Sim x w w₁) (p:Program) (a:Addr) (b:Bool):w₁.farLoad p a b=w.farLoad p a b:=by
  unfold World.farLoad World.viewLoad
  simp only [h.seen,h.noCell]
  rcases h.block a.block with e | ⟨_,⟨_,_,_,_,_,_,e1⟩,⟨_,_,_,_,_,_,e2⟩⟩
  · rw [e]
  · rw [e1,e2]
theorem Sim.put {w w₁:World} (h:Sim x w w₁) (r:Nat) (o:Obj):Sim x { w with heap:=w.heap.setIfInBounds r o } { w₁ with heap:=w₁.heap.setIfInBounds r o }:=by
  refine ⟨h.os,h.output,by simp [h.size],fun b=>?_⟩
  by_cases e:r=b
  · subst e
    left
    simp only [Array.getElem?_setIfInBounds_self]
    rw [h.size]
  · simp only [Array.getElem?_setIfInBounds_ne e]
    exact h.block b
theorem Sim.modify {w w₁:World} (h:Sim x w w₁) (r:Nat) (f:Obj->Obj) (hf:∀ c bf cl s r t,f (.chan c bf cl s r t) = .chan c bf cl s r t) :
    Sim x { w with heap:=w.heap.modify r f } { w₁ with heap:=w₁.heap.modify r f }:=by
  refine ⟨h.os,h.output,by simp [h.size],fun b=>?_⟩
  simp only [Array.getElem?_modify]
  by_cases e:r=b
  · subst e
    rcases h.block r with e | ⟨hx,⟨_,_,_,_,_,_,e1⟩,⟨_,_,_,_,_,_,e2⟩⟩
    · left;rw [e]
    · right
      rw [e1,e2]
      refine ⟨hx,?_,?_⟩
      · simp [hf]
      · simp [hf]
  · simp only [if_neg e]
    exact h.block b
theorem Sim.setCell {w w₁:World} (h:Sim x w w₁) (a:Addr) (v:Value):Sim x (w.setCell a v) (w₁.setCell a v):=h.modify _ _ (fun _ _ _ _ _ _=>rfl)
theorem Sim.freeze {w w₁:World} (h:Sim x w w₁) (a:Addr) (n:Nat):Sim x (w.freeze a n) (w₁.freeze a n):=by
  unfold World.freeze
  split
  · exact h
  · exact h.modify _ _ (fun _ _ _ _ _ _=>rfl)
theorem Sim.push {w w₁:World} (h:Sim x w w₁) (o:Obj):Sim x { w with heap:=w.heap.push o } { w₁ with heap:=w₁.heap.push o }:=by
  refine ⟨h.os,h.output,by simp [h.size],fun b=>?_⟩
  simp only [Array.getElem?_push,h.size]
  split
  · exact .inl rfl
  · exact h.block b
theorem seen_row {p:Program} {w:World} {at_:Addr} {u:TypeId} {k:Addr} {b:Bool} {y} (h:w.seen p at_ u k b = .ok y):∃ x,w.heap[at_.block]?=some x/\x.isChan=false:=by
  cases hb:w.heap[at_.block]? with
  | none=>exfalso;unfold World.seen at h;rw [hb] at h;simp only [bind,Except.bind] at h;(repeat' split at h) <;> cases h
  | some o =>
    cases o
    case chan=>exfalso;unfold World.seen at h;rw [hb] at h;simp only [bind,Except.bind] at h;(repeat' split at h) <;> cases h
    all_goals exact ⟨_,rfl,rfl⟩
def Kc (w w':World):Prop:=∀ (b:Nat) (c:Nat) (bf:Array Value) (cl:Bool) (s r:Nat) (t:Bool),w'.heap[b]?=some (.chan c bf cl s r t)↔w.heap[b]?=some (.chan c bf cl s r t)
theorem Kc.refl (w:World):Kc w w:=fun _ _ _ _ _ _ _=>Iff.rfl
theorem Kc.trans {a b c:World} (h:Kc a b) (k:Kc b c):Kc a c:=fun x1 x2 x3 x4 x5 x6 x7=>(k x1 x2 x3 x4 x5 x6 x7).trans (h x1 x2 x3 x4 x5 x6 x7)
theorem Kc.put {w:World} {r:Nat} {o:Obj} (ho:o.isChan=false) (hr:∃ x,w.heap[r]?=some x/\x.isChan=false):Kc w { w with heap:=w.heap.setIfInBounds r o }:=by
  obtain ⟨x,h1,h2⟩:=hr
  intro b c bf cl s rr t
  by_cases e:r=b
  · subst e
    have hlt:r<w.heap.size:=(Array.getElem?_eq_some_iff.1 h1).1
    simp only [Array.getElem?_setIfInBounds_self,hlt,if_true,h1]
    constructor
    · intro q;cases q;cases ho
    · intro q;cases q;cases h2
  · simp only [Array.getElem?_setIfInBounds_ne e]
theorem Kc.modify {w:World} {r:Nat} {f:Obj->Obj} (hf:∀ c bf cl s r t,f (.chan c bf cl s r t) = .chan c bf cl s r t) (hf':∀ o,o.isChan=false->(f o).isChan=false):Kc w { w with heap:=w.heap.modify r f }:=by
  intro b c bf cl s rr t
  simp only [Array.getElem?_modify]
  by_cases e:r=b
  · subst e
    simp only [if_true]
    cases hx:w.heap[r]? with
    | none=>simp
    | some o =>
      cases hc:o.isChan with
      | false =>
        have:=hf' o hc
        simp only [Option.map_some,Option.some.injEq]
        constructor
        · intro q;rw [q] at this;cases this
        · intro q;rw [q] at hc;cases hc
      | true =>
        cases o <;> first | (cases hc;done) | skip
        simp only [Option.map_some,hf]
  · simp only [if_neg e]
theorem Kc.setCell (w:World) (a:Addr) (v:Value):Kc w (w.setCell a v):=Kc.modify (fun _ _ _ _ _ _=>rfl) (fun o ho=>by cases o <;> first | (cases ho;done) | rfl)
theorem Kc.freeze (w:World) (a:Addr) (n:Nat):Kc w (w.freeze a n):=by
  unfold World.freeze
  split
  · exact Kc.refl _
  · exact Kc.modify (fun _ _ _ _ _ _=>rfl) (fun o ho=>by cases o <;> first | (cases ho;done) | rfl)
theorem Kc.push {w:World} {o:Obj} (ho:o.isChan=false):Kc w { w with heap:=w.heap.push o }:=by
  intro b c bf cl s r t
  simp only [Array.getElem?_push]
  split
  · rename_i e
    subst e
    constructor
    · intro q;cases q;cases ho
    · intro q;simp at q
  · exact Iff.rfl
theorem Kc.draw (w:World) (d:Nat):Kc w { w with drawn:=d }:=fun _ _ _ _ _ _ _=>Iff.rfl
theorem Sim.farStore {w w₁:World} (h:Sim x w w₁) (p:Program) (a:Addr) (v:Value) (b:Bool) :
    (∃ e,w.farStore p a v b = .error e/\w₁.farStore p a v b = .error e)\/∃ r o l,o.isChan=false/\(∃ x,w.heap[r]?=some x/\x.isChan=false)/\w.farStore p a v b = .ok ({ w with heap:=w.heap.setIfInBounds r o },l)/\w₁.farStore p a v b = .ok ({ w₁ with heap:=w₁.heap.setIfInBounds r o },l):=by
  unfold World.farStore
  rcases h.block a.block with e | ⟨_,⟨_,_,_,_,_,_,e1⟩,⟨_,_,_,_,_,_,e2⟩⟩
  · rw [e]
    cases hb:w.heap[a.block]? with
    | none=>exact .inl ⟨_,rfl,by simp only [h.noCell]⟩
    | some o =>
      cases o with
      | view at_ u =>
        simp only [World.viewStore,h.seen,bind,Except.bind,pure,Except.pure]
        by_cases ht:(!tight p p.depth u)=true
        · simp only [if_pos ht]
          exact .inl ⟨_,rfl,rfl⟩
        · simp only [if_neg ht]
          cases hsn:w.seen p at_ u a b with
          | error e=>exact .inl ⟨_,rfl,rfl⟩
          | ok y =>
            have hrow:=seen_row hsn
            cases v.bytes? with
            | none=>exact .inl ⟨_,rfl,rfl⟩
            | some bytes =>
              by_cases hl:some bytes.length ≠ y.2.2.2.2.1.bytes?.map (·.length)
              · simp only [if_pos hl]
                exact .inl ⟨_,rfl,rfl⟩
              · simp only [if_neg hl]
                generalize (List.foldlM (m:=Except String) (α:=Nat × Nat × List UInt8) (s:=Array Value) _ _ _)=F
                cases F with
                | error e=>exact .inl ⟨_,rfl,rfl⟩
                | ok c=>exact .inr ⟨_,_,_,rfl,hrow,rfl,rfl⟩
      | _=>exact .inl ⟨_,rfl,by simp only [h.noCell]⟩
  · rw [e1,e2]
    exact .inl ⟨_,rfl,by simp only [h.noCell]⟩
theorem Sim.heap {w w₁:World} (h:Sim none w w₁):w₁.heap=w.heap:=by
  refine Array.ext_getElem? (fun b=>?_)
  rcases h.block b with e | ⟨⟨_,q,_⟩,_⟩
  · exact e
  · cases q
end Go.Proofs.YteaieagkjepgiaaGreatDoor
/- . -/
namespace Go.Proofs.YteaieagkjepgiaaGreatDoor
set_option maxRecDepth 100000
open Go.Conc
section
variable (T:Tables) (f g:Array Func)
theorem byteOfCell_same:∀ (d:Nat) (t:TypeId) (o:Nat),byteOfCell ⟨T,f⟩ d t o=byteOfCell ⟨T,g⟩ d t o
  | 0,_,_=>rfl
  | d+1,t,o=>by
    unfold byteOfCell
    simp only [byteOfCell_same d]
    rfl
theorem cellHolding_same:∀ (d:Nat) (t:TypeId) (o:Nat),cellHolding ⟨T,f⟩ d t o=cellHolding ⟨T,g⟩ d t o
  | 0,_,_=>rfl
  | d+1,t,o=>by
    unfold cellHolding
    simp only [cellHolding_same d]
    rfl
theorem plainCell_same:∀ (d:Nat) (t:TypeId) (o:Nat),plainCell ⟨T,f⟩ d t o=plainCell ⟨T,g⟩ d t o
  | 0,_,_=>rfl
  | d+1,t,o=>by
    unfold plainCell
    simp only [plainCell_same d]
    rfl
theorem tight_same:∀ (d:Nat) (t:TypeId),tight ⟨T,f⟩ d t=tight ⟨T,g⟩ d t
  | 0,_=>rfl
  | d+1,t=>by
    unfold tight
    simp only [tight_same d]
    rfl
theorem seenCells_same (c:Array Value) (e:TypeId):∀ (n x s:Nat),seenCells ⟨T,f⟩ c e n x s=seenCells ⟨T,g⟩ c e n x s
  | 0,_,_=>rfl
  | n+1,x,s=>by
    unfold seenCells
    simp only [seenCells_same c e n,cellHolding_same T f g]
    rfl
theorem seen_same (w:World) (at_:Addr) (u:TypeId) (k:Addr) (b:Bool):World.seen ⟨T,f⟩ w at_ u k b=World.seen ⟨T,g⟩ w at_ u k b:=by
  unfold World.seen
  simp only [byteOfCell_same T f g,plainCell_same T f g,seenCells_same T f g]
  rfl
theorem farLoad_same (w:World) (a:Addr) (b:Bool):World.farLoad ⟨T,f⟩ w a b=World.farLoad ⟨T,g⟩ w a b:=by
  unfold World.farLoad World.viewLoad
  simp only [seen_same T f g]
theorem farStore_same (w:World) (a:Addr) (v:Value) (b:Bool):World.farStore ⟨T,f⟩ w a v b=World.farStore ⟨T,g⟩ w a v b:=by
  unfold World.farStore World.viewStore
  simp only [seen_same T f g,tight_same T f g]
  rfl
end
end Go.Proofs.YteaieagkjepgiaaGreatDoor
/- . -/
namespace Go.Proofs.YteaieagkjepgiaaGreatDoor
set_option maxRecDepth 100000
open Go.Conc
def Stops:Halt->Prop
  | .panic _ | .stuck _ | .unsupported _=>True
  | _=>False
def Tame {α:Type} (P P₁:Program) (Q:α->Prop):Sem α->Prop
  | .pure a=>Q a
  | .load _ _ k=>∀ v,Tame P P₁ Q (k v)
  | .store _ _ _ k=>Tame P P₁ Q k
  | .new o k=>o.isChan=false/\∀ r,Tame P P₁ Q (k r)
  | .shape _ k=>∀ s,Tame P P₁ Q (k s)
  | .freeze _ _ k=>Tame P P₁ Q k
  | .frozen _ k=>∀ b,Tame P P₁ Q (k b)
  | .getObj _ k=>(∀ o,Tame P P₁ Q (k o))/\∀ c bf cl s r t c' bf' cl' s' r' t',k (.chan c bf cl s r t)=k (.chan c' bf' cl' s' r' t')
  | .setObj _ _ _=>False
  | .choose _ k=>∀ n,Tame P P₁ Q (k n)
  | .sys _ _=>False
  | .program k=>k P₁=k P/\Tame P P₁ Q (k P)
  | .mark m k=>m = .noRoom/\Tame P P₁ Q k
  | .halt h=>Stops h
def Agree (k:Nat) (w w₁:World):Prop:=∀ i,i<k->∀ q,w₁.tape (w₁.drawn+i) q=w.tape (w.drawn+i) q
def Mm (e:Event):Prop:=(∀ m,e.loc = .mark m->m = .noRoom)/\∀ r,e.loc = .obj r->e.write=false
def Mild (es es':Array Event):Prop:=∀ e ∈ es',e ∈ es\/Mm e
theorem Mild.refl (es:Array Event):Mild es es:=fun _ h=>.inl h
theorem Mild.push {es es':Array Event} {e:Event} (h:Mild (es.push e) es') (he:Mm e):Mild es es':=by
  intro x hx
  rcases h x hx with q | q
  · rcases Array.mem_push.1 q with q | rfl
    · exact .inl q
    · exact .inr he
  · exact .inr q
theorem Mild.more {es es':Array Event} {l:List Addr} {b c:Bool} (h:Mild (es++l.toArray.map (⟨.cell ·,b,c⟩)) es'):Mild es es':=by
  intro x hx
  rcases h x hx with q | q
  · rcases Array.mem_append.1 q with q | q
    · exact .inl q
    · obtain ⟨a,_,rfl⟩:=Array.mem_map.1 q
      exact .inr ⟨fun m hm=>(by cases hm),fun r hr=>(by cases hr)⟩
  · exact .inr q
def Ends {α:Type} (y:Option Nat) (P P₁:Program) (Q:α->Prop) (s:Sem α) (w w₁:World) (es:Array Event):Prop:=
  (∃ a w' k es',s.runT P w es=(.ok a w',es')/\Q a/\w'.tape=w.tape/\w'.drawn=w.drawn+k/\Mild es es'/\Kc w w' /\
    (Agree k w w₁->∃ w₁',s.runT P₁ w₁ es=(.ok a w₁',es')/\Sim y w' w₁'/\w₁'.tape=w₁.tape/\w₁'.drawn=w₁.drawn+k/\Kc w₁ w₁')) \/
  (∃ h w' k es',s.runT P w es=(.halt h w',es')/\Stops h/\w'.tape=w.tape/\w'.drawn=w.drawn+k/\Mild es es'/\Kc w w' /\
    (Agree k w w₁->∃ w₁',s.runT P₁ w₁ es=(.halt h w₁',es')/\Sim y w' w₁'/\w₁'.tape=w₁.tape/\w₁'.drawn=w₁.drawn+k/\Kc w₁ w₁'))
theorem Ends.same {α:Type} {y:Option Nat} {P P₁:Program} {Q:α->Prop} {s s':Sem α} {w v w₁ v₁:World} {es es₂:Array Event} (h:Ends y P P₁ Q s v v₁ es₂)
    (h0:s'.runT P w es=s.runT P v es₂) (h1:s'.runT P₁ w₁ es=s.runT P₁ v₁ es₂) (t0:v.tape=w.tape) (d0:v.drawn=w.drawn) (t1:v₁.tape=w₁.tape) (d1:v₁.drawn=w₁.drawn) (k0:Kc w v) (k1:Kc w₁ v₁) (hm:∀ es',Mild es₂ es'->Mild es es') :
    Ends y P P₁ Q s' w w₁ es:=by
  rcases h with ⟨a,w',k,es',e,q,t,d,m,kc,x⟩ | ⟨a,w',k,es',e,q,t,d,m,kc,x⟩
  · refine .inl ⟨a,w',k,es',h0.trans e,q,t.trans t0,by rw [d,d0],hm _ m,k0.trans kc,fun g=>?_⟩
    obtain ⟨w₁',e',s',t',d',kc'⟩:=x (fun i hi q=>by rw [t1,d1,t0,d0];exact g i hi q)
    exact ⟨w₁',h1.trans e',s',t'.trans t1,by rw [d',d1],k1.trans kc'⟩
  · refine .inr ⟨a,w',k,es',h0.trans e,q,t.trans t0,by rw [d,d0],hm _ m,k0.trans kc,fun g=>?_⟩
    obtain ⟨w₁',e',s',t',d',kc'⟩:=x (fun i hi q=>by rw [t1,d1,t0,d0];exact g i hi q)
    exact ⟨w₁',h1.trans e',s',t'.trans t1,by rw [d',d1],k1.trans kc'⟩
theorem Ends.halted {α:Type} {y:Option Nat} {P P₁:Program} {Q:α->Prop} {s:Sem α} {w w₁:World} {es:Array Event} {h:Halt} (hS:Sim y w w₁) (h0:s.runT P w es=(.halt h w,es)) (h1:s.runT P₁ w₁ es=(.halt h w₁,es)) (hs:Stops h):Ends y P P₁ Q s w w₁ es:=
  .inr ⟨h,w,0,es,h0,hs,rfl,rfl,Mild.refl _,Kc.refl _,fun _=>⟨w₁,h1,hS,rfl,rfl,Kc.refl _⟩⟩
theorem stops_noCell (w:World) (a:Addr) (s:String):Stops (w.noCell a s):=by
  unfold World.noCell
  split <;> trivial
theorem stops_farLoad {p:Program} {w:World} {a:Addr} {b:Bool} {h:Halt} (e:w.farLoad p a b = .error h):Stops h:=by
  unfold World.farLoad at e
  split at e
  · split at e
    · cases e
    · cases e;trivial
  · cases e;exact stops_noCell _ _ _
theorem stops_farStore {p:Program} {w:World} {a:Addr} {v:Value} {b:Bool} {h:Halt} (e:w.farStore p a v b = .error h):Stops h:=by
  unfold World.farStore at e
  split at e
  · split at e
    · cases e
    · cases e;trivial
  · cases e;exact stops_noCell _ _ _
theorem row_two {y:Option Nat} {w w₁:World} (h:Sim y w w₁) {r:Nat} (hr:∃ x,w.heap[r]?=some x/\x.isChan=false):∃ x,w₁.heap[r]?=some x/\x.isChan=false:=by
  obtain ⟨x,h1,h2⟩:=hr
  rcases h.block r with e | ⟨_,⟨_,_,_,_,_,_,e⟩,_⟩
  · exact ⟨x,e.trans h1,h2⟩
  · rw [h1] at e;cases e;cases h2
theorem tame_run {α:Type} {y:Option Nat} {T:Tables} {f g:Array Func} {Q:α->Prop}:∀ (s:Sem α) (w w₁:World) (es:Array Event),Tame ⟨T,f⟩ ⟨T,g⟩ Q s->Sim y w w₁->Ends y ⟨T,f⟩ ⟨T,g⟩ Q s w w₁ es:=by
  intro s
  induction s with
  | pure a=>exact fun w w₁ es h hS=>.inl ⟨a,w,0,es,rfl,h,rfl,rfl,Mild.refl _,Kc.refl _,fun _=>⟨w₁,rfl,hS,rfl,rfl,Kc.refl _⟩⟩
  | load m a k ih =>
    intro w w₁ es h hS
    cases hc:w.cell? a with
    | some v =>
      have hc1:w₁.cell? a=some v:=(hS.cell? a).trans hc
      exact (ih v w w₁ (es.push ⟨.cell a,false,m == .atomic⟩) (h v) hS).same (by simp only [Sem.runT,hc]) (by simp only [Sem.runT,hc1]) rfl rfl rfl rfl (Kc.refl _) (Kc.refl _) (fun _ q=>q.push ⟨fun m hm=>(by cases hm),fun r hr=>(by cases hr <;> rfl)⟩)
    | none =>
      have hc1:w₁.cell? a=none:=(hS.cell? a).trans hc
      cases hf:w.farLoad ⟨T,f⟩ a (m == .atomic) with
      | error x =>
        have hf1:w₁.farLoad ⟨T,g⟩ a (m == .atomic) = .error x:=by rw [<-farLoad_same T f g,hS.farLoad];exact hf
        exact Ends.halted hS (by simp only [Sem.runT,hc,hf]) (by simp only [Sem.runT,hc1,hf1]) (stops_farLoad hf)
      | ok x =>
        have hf1:w₁.farLoad ⟨T,g⟩ a (m == .atomic) = .ok x:=by rw [<-farLoad_same T f g,hS.farLoad];exact hf
        obtain ⟨v,l⟩:=x
        exact (ih v w w₁ (es++l.toArray.map (⟨.cell ·,false,m == .atomic⟩)) (h v) hS).same (by simp only [Sem.runT,hc,hf]) (by simp only [Sem.runT,hc1,hf1]) rfl rfl rfl rfl (Kc.refl _) (Kc.refl _) (fun _ q=>q.more)
  | store m a v k ih =>
    intro w w₁ es h hS
    have far:=hS.farStore ⟨T,f⟩ a v (m == .atomic)
    rw [farStore_same T f g w₁] at far
    have ih':=fun es=>ih (w.setCell a v) (w₁.setCell a v) es h (hS.setCell a v)
    have put:=fun r o es=>ih _ _ es h (hS.put r o)
    clear ih
    have z1:=hS.frozen? a
    cases hc:w.cell? a with
    | some x =>
      have hc1:w₁.cell? a=some x:=(hS.cell? a).trans hc
      cases hz:w.frozen? a with
      | true =>
        rw [hz] at z1
        cases v <;> (apply Ends.halted hS <;> first | (simp only [Sem.runT,hc,hz,if_true];rfl) | (simp only [Sem.runT,hc1,z1,if_true];done) | rfl | trivial)
      | false =>
        rw [hz] at z1
        cases v with
        | agg | tuple=>apply Ends.halted hS <;> first | rfl | trivial
        | _=>exact (ih' (es.push ⟨.cell a,true,m == .atomic⟩)).same (by simp [Sem.runT,hc,hz,-Sem.runT_eq]) (by simp [Sem.runT,hc1,z1,-Sem.runT_eq]) rfl rfl rfl rfl (Kc.setCell _ _ _) (Kc.setCell _ _ _) (fun _ q=>q.push ⟨fun m hm=>(by cases hm),fun r hr=>(by cases hr <;> rfl)⟩)
    | none =>
      have hc1:w₁.cell? a=none:=(hS.cell? a).trans hc
      rcases far with ⟨x,f1,f2⟩ | ⟨r,o,l,ho,hx,f1,f2⟩
      · cases v with
        | agg | tuple=>apply Ends.halted hS <;> first | rfl | trivial
        | _=>exact Ends.halted hS (by simp only [Sem.runT,hc,f1]) (by simp only [Sem.runT,hc1,f2]) (stops_farStore f1)
      · cases v with
        | agg | tuple=>apply Ends.halted hS <;> first | rfl | trivial
        | _=>exact (put r o (es++l.toArray.map (⟨.cell ·,true,m == .atomic⟩))).same (by simp only [Sem.runT,hc,f1]) (by simp only [Sem.runT,hc1,f2]) rfl rfl rfl rfl (Kc.put ho hx) (Kc.put ho (row_two hS hx)) (fun _ q=>q.more)
  | new o k ih =>
    intro w w₁ es h hS
    refine (ih w.heap.size _ _ es (h.2 _) (hS.push o)).same rfl ?_ rfl rfl rfl rfl (Kc.push h.1) (Kc.push h.1) (fun _ q=>q)
    simp only [Sem.runT,hS.size]
  | shape r k ih =>
    intro w w₁ es h hS
    exact (ih _ w w₁ es (h _) hS).same rfl (by simp only [Sem.runT,hS.shape?]) rfl rfl rfl rfl (Kc.refl _) (Kc.refl _) (fun _ q=>q)
  | freeze a n k ih =>
    intro w w₁ es h hS
    have ht:∀ w:World,(w.freeze a n).tape=w.tape/\(w.freeze a n).drawn=w.drawn:=by
      intro w;unfold World.freeze;split <;> exact ⟨rfl,rfl⟩
    exact (ih _ _ es h (hS.freeze a n)).same rfl rfl (ht w).1 (ht w).2 (ht w₁).1 (ht w₁).2 (Kc.freeze _ _ _) (Kc.freeze _ _ _) (fun _ q=>q)
  | frozen a k ih =>
    intro w w₁ es h hS
    exact (ih _ w w₁ es (h _) hS).same rfl (by simp only [Sem.runT,hS.frozen?]) rfl rfl rfl rfl (Kc.refl _) (Kc.refl _) (fun _ q=>q)
  | getObj r k ih =>
    intro w w₁ es h hS
    have ev:∀ (P:Program) (w:World) (o:Obj),w.heap[r]?=some o->(∃ c e z,o = .cells c e z)\/(Sem.getObj r k).runT P w es=(k o).runT P w (es.push ⟨.obj r,false,o.isChan⟩):=by
      intro P w o hr
      cases o <;> first | exact .inl ⟨_,_,_,rfl⟩ | exact .inr (by simp only [Sem.runT,hr])
    rcases hS.block r with e | ⟨_,⟨c,bf,cl,s,rr,t,e1⟩,⟨c',bf',cl',s',r',t',e2⟩⟩
    · cases hr:w.heap[r]? with
      | none=>apply Ends.halted hS <;> first | (simp only [Sem.runT,e,hr];done) | (simp only [Sem.runT,hr];rfl) | trivial
      | some o =>
        rcases ev ⟨T,f⟩ w o hr with ⟨_,_,_,rfl⟩ | q
        · apply Ends.halted hS <;> first | (simp only [Sem.runT,e,hr];done) | (simp only [Sem.runT,hr];rfl) | trivial
        · rcases ev ⟨T,g⟩ w₁ o (e.trans hr) with ⟨_,_,_,rfl⟩ | q1
          · apply Ends.halted hS <;> first | (simp only [Sem.runT,e,hr];done) | (simp only [Sem.runT,hr];rfl) | trivial
          · exact (ih o w w₁ _ (h.1 _) hS).same q q1 rfl rfl rfl rfl (Kc.refl _) (Kc.refl _) (fun _ q=>q.push ⟨fun m hm=>(by cases hm),fun r hr=>(by cases hr <;> rfl)⟩)
    · rcases ev ⟨T,f⟩ w _ e1 with ⟨_,_,_,x⟩ | q
      · cases x
      · rcases ev ⟨T,g⟩ w₁ _ e2 with ⟨_,_,_,x⟩ | q1
        · cases x
        · exact (ih (.chan c bf cl s rr t) w w₁ _ (h.1 _) hS).same q (by rw [q1,h.2 c' bf' cl' s' r' t' c bf cl s rr t];rfl) rfl rfl rfl rfl (Kc.refl _) (Kc.refl _) (fun _ q=>q.push ⟨fun m hm=>(by cases hm),fun r hr=>(by cases hr <;> rfl)⟩)
  | setObj r o k ih=>exact fun _ _ _ h _=>h.elim
  | choose q k ih =>
    intro w w₁ es h hS
    cases hq:q.forced with
    | true=>exact (ih 0 w w₁ es (h 0) hS).same (by simp only [Sem.runT,hq,if_true]) (by simp only [Sem.runT,hq,if_true]) rfl rfl rfl rfl (Kc.refl _) (Kc.refl _) (fun _ q=>q)
    | false =>
      have key:=ih (q.cut (w.tape w.drawn q)) { w with drawn:=w.drawn+1 } { w₁ with drawn:=w₁.drawn+1 } es (h _) (hS.draw _ _)
      have e0:(Sem.choose q k).runT ⟨T,f⟩ w es=(k (q.cut (w.tape w.drawn q))).runT ⟨T,f⟩ { w with drawn:=w.drawn+1 } es:=by simp [Sem.runT,hq,-Sem.runT_eq]
      have e1:(∀ x,w₁.tape w₁.drawn x=w.tape w.drawn x)->(Sem.choose q k).runT ⟨T,g⟩ w₁ es=(k (q.cut (w.tape w.drawn q))).runT ⟨T,g⟩ { w₁ with drawn:=w₁.drawn+1 } es:=by
        intro hx;simp [Sem.runT,hq,hx,-Sem.runT_eq]
      rcases key with ⟨a,w',j,es',e,q',t,d,m,kc,x⟩ | ⟨a,w',j,es',e,q',t,d,m,kc,x⟩
      · refine .inl ⟨a,w',j+1,es',e0.trans e,q',t,by rw [d];simp only;omega,m,(Kc.draw _ _).trans kc,fun A=>?_⟩
        obtain ⟨w₁',e',s',t',d',kc'⟩:=x (fun i hi q=>by have:=A (i+1) (by omega) q;simp only;rw [show w₁.drawn+1+i=w₁.drawn+(i+1) by omega,show w.drawn+1+i=w.drawn+(i+1) by omega];exact this)
        exact ⟨w₁',(e1 (fun y=>A 0 (by omega) y)).trans e',s',t',by rw [d'];simp only;omega,(Kc.draw _ _).trans kc'⟩
      · refine .inr ⟨a,w',j+1,es',e0.trans e,q',t,by rw [d];simp only;omega,m,(Kc.draw _ _).trans kc,fun A=>?_⟩
        obtain ⟨w₁',e',s',t',d',kc'⟩:=x (fun i hi q=>by have:=A (i+1) (by omega) q;simp only;rw [show w₁.drawn+1+i=w₁.drawn+(i+1) by omega,show w.drawn+1+i=w.drawn+(i+1) by omega];exact this)
        exact ⟨w₁',(e1 (fun y=>A 0 (by omega) y)).trans e',s',t',by rw [d'];simp only;omega,(Kc.draw _ _).trans kc'⟩
  | sys c k ih=>exact fun _ _ _ h _=>h.elim
  | program k ih =>
    intro w w₁ es h hS
    exact (ih ⟨T,f⟩ w w₁ es h.2 hS).same rfl (by simp only [Sem.runT,h.1]) rfl rfl rfl rfl (Kc.refl _) (Kc.refl _) (fun _ q=>q)
  | mark m k ih =>
    intro w w₁ es h hS
    exact (ih w w₁ _ h.2 hS).same rfl rfl rfl rfl rfl rfl (Kc.refl _) (Kc.refl _) (fun _ q=>q.push ⟨fun x hx=>(by cases hx;exact h.1),fun r hr=>(by cases hr)⟩)
  | halt x=>exact fun w w₁ es h hS=>Ends.halted hS rfl rfl h
end Go.Proofs.YteaieagkjepgiaaGreatDoor
