/- Texts of ours, laid one behind the other: SgP, SgO, GenA, TreA. -/
import Derived.Test.YteaieagkjepgiaaGreatDoorPfM13
import Derived.Conc.LeavingOf
set_option linter.unusedVariables false
set_option linter.unusedSimpArgs false
/- . -/
namespace Go.Proofs.YteaieagkjepgiaaGreatDoor
set_option maxRecDepth 100000
open Go.Conc Go.RowKit
theorem pi_none:Pi 0 #[]:=⟨past_nil,fun i a h=>by cases h⟩
section
variable {ok:Op->Bool} {F:FuncId->List Lp} {S S':List FuncId} {T:Tables} {f g:Array Func} {w₀:World} {V:Lp->Frame->List Value->Prop} {Post:Value->World->Prop}
theorem tm_start {L:FuncId} {args:Array Value} {Q:World->Value->World->Prop} (hC:∀ τ,Calls ⟨T,f⟩ L args (Rt w₀ τ) fun e w'=>∃ v,e = .returned v/\Q (Rt w₀ τ) v w') :
    Tm2 ⟨T,f⟩ (fun fr w'=>∃ τ v fn,fr.fn=L/\f[L]?=some fn/\(results fn fr.tmps).run ⟨T,f⟩ w' = .ok v w'/\Q (Rt w₀ τ) v w') (Frame.enter ⟨T,f⟩ L args .normal) [] w₀:=by
  intro τ _
  obtain ⟨e,w',fr',⟨v,rfl,hq⟩,hs,hf,hm,hdf,hkd,fn,k1,k2⟩:=hC τ [sent ⟨T,f⟩]
  obtain ⟨n,hn⟩:=hs
  exact ⟨n,fr',w',hn,⟨hm,hdf,hkd,fn,k1⟩,τ,v,fn,hf,by rw [<-hf];exact k1,k2,hq⟩
theorem wins2 (hE:Env T f g ok S S' F) (hC:CallT T f ok S F V) (hP:CallP T f g ok S F V Post) {L:FuncId} {args:Array Value} {Q:World->Value->World->Prop} (hL:L ∈ S) (hns:noSlots L=true) (hcalls:∀ τ,Calls ⟨T,f⟩ L args (Rt w₀ τ) fun e w'=>∃ v,e = .returned v/\Q (Rt w₀ τ) v w')
    (hEnd:EndP T f g ok S (fun fr w'=>∃ τ v fn,fr.fn=L/\f[L]?=some fn/\(results fn fr.tmps).run ⟨T,f⟩ w' = .ok v w'/\Q (Rt w₀ τ) v w') Post w₀ w₀.tape) {sl:Option (Nat × Nat)} {t:Trace} {B:Nat} (hPi:Pi B t) (hdeaf:∀ j,0<j->Deaf t j=0) :
    Win ⟨T,g⟩ Post #[Gr (Frame.enter ⟨T,g⟩ L args .normal) []] w₀ sl t:=by
  have hT:=tm_start (T:=T) (f:=f) hcalls
  have ho:Ord ok S (Frame.enter ⟨T,f⟩ L args .normal):=enter_ord hL (hE.ff L hL)
  have hid:Id T f S F (Frame.enter ⟨T,f⟩ L args .normal) []:=by
    obtain ⟨fn0,k2,k3,k4,k5⟩:=hE.sl L hL
    refine ⟨hE.ent L hL args,by simp,fun fn q=>?_,by simp,⟨fun s k hk=>(by rw [show slotK (Frame.enter ⟨T,f⟩ L args .normal).fn s=none from no_slots hns s] at hk;cases hk),enter_items k2 k3 k5⟩,by simp⟩
    have q':f[L]?=some fn:=q
    simp only [Frame.enter,q',Option.map_some,Option.getD_some,Array.size_append,Array.size_replicate]
    omega
  have hn:=nodes hE hP hEnd (tree hE hC ho (by simp) (.inl hid) hT) ho (by simp) hT
  rw [enter_two (T:=T) (hE.fine L hL).1.1]
  refine hn.idle hid _ w₀ sl t (fun _=>0) B rfl ⟨fun i x hi hx=>?_,fun j hj=>hdeaf j (show 1<=j from hj)⟩ hPi ⟨Sim.refl _,fun b c bf cl s r tm e=>⟨e,e⟩,rfl⟩
  rw [Array.getElem?_eq_none (by show 1<=i;omega)] at hx
  cases hx
end
theorem deaf_none (j:Nat):Deaf #[] j=0:=rfl
theorem below_end {w₀ w w₁:World} {τ:Nat->Question->Nat} (hb:Below w₀.heap.size (Rt w₀ τ) (Rt w w.tape)) (hs:Sim (some 0) w w₁) (hj:Jw w₀ w w₁) (ht:w₁.tape=w₀.tape) (d:Nat):Below w₀.heap.size w₀ (w₁.at d):=by
  refine ⟨hs.os.trans hb.os,ht,hs.output.trans hb.output,?_,fun k hk=>?_⟩
  · show w₀.heap.size<=w₁.heap.size
    rw [hs.size];exact hb.size
  · show w₁.heap[k]?=w₀.heap[k]?
    have e:w.heap[k]?=w₀.heap[k]?:=hb.block k hk
    rcases hs.block k with q | ⟨_,⟨c,bf,cl,s,r,t,q1⟩,_⟩
    · exact q.trans e
    · have q0:w₀.heap[k]?=some (.chan c bf cl s r t):=e.symm.trans q1
      rw [(hj _ _ _ _ _ _ _ q0).2,q0]
theorem law_run {L:FuncId} {fn:Func} {args:Array Value} {W:World} {Post:Value->World->Prop} (hL:L ∈ Sn) (hns:noSlots L=true) (hne:L ≠ 43) (hf:Tryz.prog.funcs[L]?=some fn) {r:Nat} (hr:fn.results=#[.tmp r]) (hi:Tryz.prog.inits.idxOf? L=none)
    (hcalls:∀ τ,Calls tw L args (Rt W τ) fun e w'=>e = .returned (.bool true)/\Below W.heap.size (Rt W τ) w') (hpost:∀ W',Below W.heap.size W W'->Post (.bool true) W') :
    ∃ M last o w' t',runNT Tryz.prog (M+1) (solo (G (Frame.enter Tryz.prog L args .normal) []) W) #[]=(.ended o w',t')/\runN Tryz.prog M (solo (G (Frame.enter Tryz.prog L args .normal) []) W) = .next last/\step Tryz.prog last = .ended o w'/\Conc.Good Tryz.prog Post last o w' t':=by
  have h:=wins2 (w₀:=W) (Q:=fun a v w'=>v = .bool true/\Below W.heap.size a w') env callsT (callP (Post:=Post)) hL hns (fun τ=>(hcalls τ).mono (fun e w' q=>⟨.bool true,q.1,rfl,q.2⟩)) (sl:=none) (t:=#[]) (B:=0) ?_ pi_none (fun j _=>deaf_none j)
  · exact h
  · intro fr w w₁ ho hm hfin hs hj ht
    obtain ⟨τ,v,fn',e1,e2,e3,rfl,hb⟩:=hfin w.tape (fun _ _=>rfl)
    have e4:some fn=some fn':=by rw [<-hf,<-e2];exact (tw_ne hne).symm
    obtain rfl:fn=fn':=Option.some.inj e4
    have hres:results fn fr.tmps=pure (fr.tmps.getD r undef):=by
      simp [-Array.getD_eq_getD_getElem?,results,hr]
    refine ⟨fn,.bool true,by rw [e1];exact hf,?_,by rw [e1];exact hi,fun d=>hpost _ (below_end hb hs hj ht d)⟩
    rw [hres] at e3 ⊢
    have e5:fr.tmps.getD r undef = .bool true:=by
      simpa [-Array.getD_eq_getD_getElem?] using e3
    rw [e5]
end Go.Proofs.YteaieagkjepgiaaGreatDoor
/- . -/
namespace Go.Proofs.YteaieagkjepgiaaGreatDoor
set_option maxRecDepth 100000
open Go.Conc
structure RcReg (P:Program) (ops:Array Oper) (slot pair flag:Nat) (z:Value):Prop where
  size:ops.size=2
  op0:∃ o ct el d,ops[0]?=some o/\o.guard=none/\o.dst=some pair/\o.op = .recv ct (.tmp slot) true/\(∀ w es,(underlying ct).runT P w es=(.ok (.chan d el) w,es))/\∀ w es,(zeroValue el).runT P w es=(.ok z w,es)
  op1:∃ o,ops[1]?=some o/\o.guard=none/\o.dst=some flag/\o.op = .extract (.tmp pair) 1
section
variable {P:Program} {ops:Array Oper} {slot pair flag id:Nat} {z:Value} {a:Act} {w:World} {Q:Exit->Act->World->Prop} {c cap s r:Nat} {tm:Bool}
theorem rc_comm (h:RcReg P ops slot pair flag z) (hs:a.eval (.tmp slot) = .chan (some c)) (b:Frame) (l:List Nat) (k:List Item) (cs:List Frame) (v:World):stepG P true (G (b.at a (.inRegion ops (0::l)::k)) cs) v = .comm (G (b.at a (.inRegion ops (0::l)::k)) cs) #[rcase c z] true (.recv true) v #[]:=by
  obtain ⟨o,ct,el,d,h1,h2,h3,h4,hu,hz⟩:=h.op0
  have hw:Region.wanted o (yielded ops a.tmps)=true:=by unfold Region.wanted;rw [h2]
  have e:(execOp (b.at a (.inRegion ops (0::l)::k)).eval o).runT P v #[]=(.ok (.comm #[rcase c z] true (.recv true)) v,#[]):=by
    unfold execOp
    rw [h4]
    have e1:∀ {α β:Type} (x:Sem α) (F:α->Sem β),(x >>= F)=x.bind F:=fun _ _=>rfl
    have hs':(b.at a (.inRegion ops (0::l)::k)).eval (.tmp slot) = .chan (some c):=by rw [Frame.eval_at];exact hs
    simp only [e1,Sem.runT_bind',hu,hz,hs']
    rfl
  show stepG P true (Gr (b.at a (.inRegion ops (0::l)::k)) cs) v=_
  rw [step_op (fr:=b.at a (.inRegion ops (0::l)::k)) rfl rfl rfl h1 hw]
  simp [-Sem.runT_eq,stepG.apply,e,GStep.after,seen,G]
theorem rc_look (h:RcReg P ops slot pair flag z) {x:Value} {f:Bool} (hx:a.eval (.tmp pair) = .tuple #[x,.bool f]) (b:Frame) (k:List Item) (cs:List Frame) (v:World):step P (lone (b.at a (.inRegion ops [1]::k)) cs v) = .next (lone (b.at (a.put (some flag) (.bool f)) (.inRegion ops []::k)) cs v):=by
  obtain ⟨o,h1,h2,h3,h4⟩:=h.op1
  have hw:Region.wanted o (yielded ops a.tmps)=true:=by unfold Region.wanted;rw [h2]
  refine lone_step (es:=#[]) ?_
  have e:(execOp (b.at a (.inRegion ops [1]::k)).eval o).runT P v #[]=(.ok (.value (.bool f)) v,#[]):=by
    unfold execOp
    rw [h4]
    have hx':(b.at a (.inRegion ops [1]::k)).eval (.tmp pair) = .tuple #[x,.bool f]:=by rw [Frame.eval_at];exact hx
    simp only [hx']
    rfl
  rw [step_op (fr:=b.at a (.inRegion ops [1]::k)) rfl rfl rfl h1 hw]
  simp [-Sem.runT_eq,stepG.apply,e,GStep.after,seen,Frame.finish_at,h1,h3]
theorem wp_take (h:RcReg P ops slot pair flag z) (hs:a.eval (.tmp slot) = .chan (some c)) (hp:pair<a.tmps.size) {v:Value} {vs:List Value} {cl:Bool} (hc:w.heap[c]?=some (.chan cap (v::vs).toArray cl s r tm))
    (hQ:Q .normal ((a.put (some pair) (.tuple #[v,.bool true])).put (some flag) (.bool true)) (w.setChan c cap vs.toArray cl s (r+1) tm)):(Code.region id ops false).wp P Q a w:=by
  intro b k cs
  refine ⟨.normal,_,_,hQ,?_⟩
  refine .head step_region ?_
  rw [h.size,show List.range 2=[0,1] from rfl]
  obtain ⟨o,ct,el,d,h1,h2,h3,h4,hu,hz⟩:=h.op0
  have e:=step_lone_recv_buf true (rc_comm h hs b [1] k cs w) hc (by simp)
  refine .head (m₁:=lone (b.at (a.put (some pair) (.tuple #[v,.bool true])) (.inRegion ops [1]::k)) cs (w.setChan c cap vs.toArray cl s (r+1) tm)) ?_ (.head (rc_look h (x:=v) (f:=true) ?_ b k cs _) (.one step_region_end))
  · rw [lone_eq_solo,e,Frame.finish_at]
    simp [h1,h3,got,lone_eq_solo]
  · simp [Act.eval,Act.put,hp]
theorem wp_shut (h:RcReg P ops slot pair flag z) (hs:a.eval (.tmp slot) = .chan (some c)) (hp:pair<a.tmps.size) (hc:w.heap[c]?=some (.chan cap #[] true s r tm))
    (hQ:Q .normal ((a.put (some pair) (.tuple #[z,.bool false])).put (some flag) (.bool false)) w):(Code.region id ops false).wp P Q a w:=by
  intro b k cs
  refine ⟨.normal,_,_,hQ,?_⟩
  refine .head step_region ?_
  rw [h.size,show List.range 2=[0,1] from rfl]
  obtain ⟨o,ct,el,d,h1,h2,h3,h4,hu,hz⟩:=h.op0
  have e:=step_lone_recv_shut true (rc_comm h hs b [1] k cs w) hc
  refine .head (m₁:=lone (b.at (a.put (some pair) (.tuple #[z,.bool false])) (.inRegion ops [1]::k)) cs w) ?_ (.head (rc_look h (x:=z) (f:=false) ?_ b k cs _) (.one step_region_end))
  · rw [lone_eq_solo,e,Frame.finish_at]
    simp [h1,h3,got,lone_eq_solo]
  · simp [Act.eval,Act.put,hp]
end
end Go.Proofs.YteaieagkjepgiaaGreatDoor
/- . -/
namespace Go.Proofs.YteaieagkjepgiaaGreatDoor
set_option maxRecDepth 100000
open Go.RowKit
structure NK (R:Type) where
  enc:R->List Value
  sz:Nat
  len:∀ r,(enc r).length=sz
  loc:R->Option Addr
  inn:R->List Value
def NK.cells {R:Type} (K:NK R) (rs:List R):List Value:=rs.flatMap K.enc
theorem NK.cells_len {R:Type} (K:NK R) (rs:List R):(K.cells rs).length=rs.length*K.sz:=flat_len K.len rs
end Go.Proofs.YteaieagkjepgiaaGreatDoor
/- . -/
namespace Go.Proofs.YteaieagkjepgiaaGreatDoor
set_option maxRecDepth 100000
open Go.RowKit
structure PM where
  group:Int
  len:Int
instance:Inhabited PM:=⟨⟨0,0⟩⟩
structure NM where
  id:Int
  parent:Int
  name:ByteArray
  dir:Bool
  schema:Int
  quota:Int
  len:Int
  pieces:List PM
  writer:Int
instance:Inhabited NM:=⟨⟨0,0,⟨#[]⟩,false,0,0,0,[],0⟩⟩
structure NR where
  nd:NM
  loc:Option Addr
  cap:Nat
instance:Inhabited NR:=⟨⟨default,none,0⟩⟩
end Go.Proofs.YteaieagkjepgiaaGreatDoor
