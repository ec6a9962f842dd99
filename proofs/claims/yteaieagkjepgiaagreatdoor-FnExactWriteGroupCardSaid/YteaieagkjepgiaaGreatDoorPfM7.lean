/- Texts of ours, laid one behind the other: XeH, SfD, SfE, SfF, SfG, SfH, SgA. -/
import Derived.Test.YteaieagkjepgiaaGreatDoorPfM6
set_option linter.unusedVariables false
set_option linter.unusedSimpArgs false
/- . -/
namespace Go.Proofs.YteaieagkjepgiaaGreatDoor
set_option maxRecDepth 100000
open Go.Conc
section
variable {okk:Op->Bool} {S:List FuncId} {T:Tables} {f g:Array Func} {P:Program} {fr fr':Frame} {tops tops' x y:List Frame} {w w':World}
theorem value_step {s:Sem Next} {v0:Value} {w1:World} {es es1:Array Event} (hkd:fr.kind = .normal) (e:s.runT P w #[]=(.ok (.value v0) w1,es1)) (hst:stepG.apply P true fr x none s w = .go (Gr fr' y) w' es):fr'=fr.finish v0:=by
  simp [-Sem.runT_eq,stepG.apply,e,GStep.after,hkd] at hst
  exact hst.1.1.symm
theorem enter_step {s:Sem Next} {z:FuncId} {as:Array Value} {w1:World} {es es1:Array Event} (hkd:fr.kind = .normal) {ops:Array Oper} {i:Nat} {r:List Nat} {k:List Item} (ht:fr.todo = .inRegion ops (i::r)::k) (e:s.runT P w #[]=(.ok (.enter z as) w1,es1)) (hst:stepG.apply P true fr x none s w = .go (Gr fr' y) w' es):fr'=Frame.enter P z as .normal:=by
  simp [-Sem.runT_eq,stepG.apply,e,GStep.after,hkd,ht] at hst
  exact hst.1.1.symm
theorem stuck_step {s:Sem Next} {m:String} {w1:World} {es es1:Array Event} (e:s.runT P w #[]=(.halt (.stuck m) w1,es1)) (hst:stepG.apply P true fr x none s w = .go (Gr fr' y) w' es):False:=by
  simp [-Sem.runT_eq,stepG.apply,e,GStep.after] at hst
theorem make_step (h:Gd fr) {o:Oper} {kk:VK} (hm:slMake fr.fn kk o.op=true) (hkd:fr.kind = .normal) {es:Array Event} (hst:stepG.apply P true fr x none (execOp fr.eval o) w = .go (Gr fr' y) w' es):∃ v0,VK.ok kk v0/\fr'=fr.finish v0:=by
  unfold slMake at hm
  split at hm
  · rename_i z fi ca e
    have e1:execOp fr.eval o=pure (.value (.func (.func z) (fi.map fr.eval) (ca.map fr.eval))):=by
      unfold execOp
      simp only [e]
      rfl
    rw [e1] at hst
    refine ⟨_,?_,value_step hkd (s:=pure _) rfl hst⟩
    rw [show kk = .fn z by simpa using hm]
    exact .inr ⟨_,_,rfl⟩
  · rename_i t a e
    have e1:execOp fr.eval o=(do pure (.value (<-Instr.makeInterface t (fr.eval a)))):=by
      unfold execOp
      simp only [e]
    rw [e1] at hst
    unfold Instr.makeInterface underlying at hst
    cases hu:P.underlying t with
    | none =>
      refine (stuck_step (m:="no such type") (w1:=w) (es1:=#[]) ?_ hst).elim
      simp only [bind_assoc]
      show ((match P.underlying t with | some d=>pure d | none=>stuck "no such type") >>= _:Sem Next).runT P w #[]=_
      rw [hu]
      rfl
    | some d =>
      by_cases hd:∃ ms,d = .interface ms
      · obtain ⟨ms,rfl⟩:=hd
        refine (stuck_step (m:="MakeInterface: a concrete type expected") (w1:=w) (es1:=#[]) ?_ hst).elim
        simp only [bind_assoc]
        show ((match P.underlying t with | some d=>pure d | none=>stuck "no such type") >>= _:Sem Next).runT P w #[]=_
        rw [hu]
        rfl
      · refine ⟨.iface t (fr.eval a),?_,value_step (w1:=w) (es1:=#[]) hkd ?_ hst⟩
        · rw [show kk = .ifc t by simpa using hm]
          exact .inr ⟨_,rfl⟩
        · simp only [bind_assoc]
          show ((match P.underlying t with | some d=>pure d | none=>stuck "no such type") >>= _:Sem Next).runT P w #[]=_
          rw [hu]
          cases d <;> first | exact absurd ⟨_,rfl⟩ hd | rfl
  · rename_i s e
    have e1:execOp fr.eval o=pure (.value (fr.eval (.tmp s))):=by
      unfold execOp
      simp only [e]
    rw [e1] at hst
    exact ⟨_,h.val s kk (by simpa using hm),value_step hkd (s:=pure _) rfl hst⟩
  · rename_i s e
    have e1:execOp fr.eval o=pure (.value (fr.eval (.tmp s))):=by
      unfold execOp
      simp only [e]
    rw [e1] at hst
    exact ⟨_,h.val s kk (by simpa using hm),value_step hkd (s:=pure _) rfl hst⟩
  · cases hm
theorem slip_step (hr:fr.roundOf=none) (hm:fr.mode = .run) {ops:Array Oper} {i:Nat} {r:List Nat} {k:List Item} {o:Oper} (ht:fr.todo = .inRegion ops (i::r)::k) (ho:ops[i]?=some o) (hw:Region.wanted o (yielded ops fr.tmps)=false) {es:Array Event}
    (hst:stepG P true (Gr fr x) w = .go (Gr fr' y) w' es):fr'=fr.finish undef:=by
  obtain ⟨fn',tmps,todo,defers,mode,kind,round⟩:=fr
  simp only at hr hm ht hw
  subst hr hm ht
  simp [stepG,stepG.exec,ho,hw] at hst
  exact hst.1.1.symm
theorem run_call {z:FuncId} {fn:Func} (k2:P.funcs[z]?=some fn) (k3:fn.body.isNone=false) (k4:(fn.name == "runtime.NumGoroutine")=false) (l:Array Value) (w:World):(callFunc z l).runT P w #[]=(.ok (.enter z l) w,#[]):=by
  unfold callFunc
  show ((match P.funcs[z]? with | none=>stuck "call: no such function" | some fn=>_:Sem Next)).runT P w #[]=_
  rw [k2]
  dsimp only
  rw [k4,if_neg (by simp),k3,if_neg (by simp)]
  rfl
theorem okop_call {o:Op} (h1:okDy P S fr.fn o=true) (h2:okDy P [] fr.fn o=false):isCall o=true:=by
  unfold okDy at h1 h2
  cases hd:dynTo P fr.fn o with
  | some z =>
    unfold dynTo at hd
    split at hd
    · rfl
    · rfl
    · cases hd
  | none =>
    rw [hd] at h1 h2
    have hp:okPan fr.fn o=false:=(Bool.or_eq_false_iff.1 h2).2
    dsimp only at h1 h2
    rw [hp] at h1 h2
    simp only [Bool.or_false] at h1 h2
    unfold okOp at h1 h2
    split at h1 <;> first | rfl | (simp at h2;done) | (simp_all;done) | skip
def Sl (P:Program) (S:List FuncId):Prop:=∀ x ∈ S,∃ fn,P.funcs[x]?=some fn/\fn.body.isNone=false/\(fn.name == "runtime.NumGoroutine")=false/\slCode x (fn.body.getD .skip)=true
theorem enter_items {x:FuncId} {as:Array Value} {kd:CallKind} {fn:Func} (k2:P.funcs[x]?=some fn) (k3:fn.body.isNone=false) (k5:slCode x (fn.body.getD .skip)=true):∀ i ∈ (Frame.enter P x as kd).todo,slItem x i=true:=by
  intro i hi
  unfold Frame.enter at hi
  dsimp only at hi
  rw [k2] at hi
  cases hb:fn.body with
  | none=>rw [hb] at k3;cases k3
  | some c =>
    rw [hb] at k5
    simp only [Option.bind_some,hb,Option.getD_some,List.mem_singleton] at hi
    subst hi
    exact k5
theorem enter_eval {x:FuncId} {as:Array Value} {kd:CallKind} (p:Nat):(Frame.enter P x as kd).eval (.tmp p)=(as[p]?).getD undef:=by
  show (as++Array.replicate _ undef).getD p undef=_
  rw [Array.getD_eq_getD_getElem?]
  by_cases h:p<as.size
  · rw [Array.getElem?_append_left h]
  · rw [Array.getElem?_append_right (by omega),show as[p]?=none by simp;omega]
    rw [Array.getElem?_replicate]
    split <;> rfl
theorem gd_near (hS:Sl P S) (h:Gd fr) (ht:∀ t ∈ tops,Gw t) (ho:Ord okk S fr) (hn:Near P S fr tops fr' tops') {X:List Frame} {es:Array Event} (hst:stepG P true (Gr fr (tops++X)) w = .go (Gr fr' (tops'++X)) w' es):Gd fr'/\∀ t ∈ tops',Gw t:=by
  have hne:∀ r a k,fr.todo ≠ .extern r a::k:=ord_extern ho
  cases hn with
  | move hm =>
    refine ⟨?_,ht⟩
    cases hm with
    | same=>exact h
    | to k' _ hc=>exact h.ctl hc
    | ret _ _=>exact ⟨h.val,h.items⟩
    | raise ch=>exact h.raise ch
    | fin v hm' hto =>
      rename_i ops i r k
      by_cases hs:∃ o s kk,ops[i]?=some o/\o.dst=some s/\slotK fr.fn s=some kk
      · obtain ⟨o,s,kk,h1,h2,h3⟩:=hs
        have hmk:slMake fr.fn kk o.op=true:=by
          have q:=(Bool.and_eq_true_iff.1 (oper_of h.items hto h1)).2
          rw [h2] at q
          dsimp only at q
          rw [h3] at q
          exact q
        have key:∀ v0,VK.ok kk v0->Gd (fr.finish v0):=fun v0 hv=>h.finish v0 hne (fun ops' i' r' k' o' s' kk' q ho' hd hk=>by
          rw [hto] at q
          cases q
          rw [h1] at ho'
          cases ho'
          rw [h2] at hd
          cases hd
          rw [h3] at hk
          cases hk
          exact hv)
        by_cases hw:Region.wanted o (yielded ops fr.tmps)=true
        · rw [step_op ho.round hm' hto h1 hw] at hst
          obtain ⟨v0,hv,e⟩:=make_step h hmk ho.kind hst
          rw [e]
          exact key v0 hv
        · have e:=slip_step ho.round hm' hto h1 (by simpa using hw) hst
          rw [e]
          exact key _ (vk_undef kk)
      · exact h.finish v hne (fun ops' i' r' k' o' s' kk' q ho' hd hk=>by
          rw [hto] at q
          cases q
          exact absurd ⟨o',s',kk',ho',hd,hk⟩ hs)
  | enter x as hm hto hi hk hx =>
    rename_i o ops i r k
    have hnil:okDy P [] fr.fn o.op=false:=by
      cases q:okDy P [] fr.fn o.op with
      | false=>rfl
      | true=>exact absurd (hx.2 [] (fun _ q=>by cases q) q) (by simp)
    have hcall:=okop_call hk hnil
    refine ⟨?_,fun t q=>?_⟩
    · obtain ⟨fn,k2,k3,k4,k5⟩:=hS x hx.1
      cases hd:dynTo P fr.fn o.op with
      | some z =>
        have hz:(S.contains z&&noSlots z)=true:=by
          have hk':=hk
          unfold okDy at hk' hnil
          rw [hd] at hk' hnil
          rcases Bool.or_eq_true_iff.1 hk' with q | q
          · exfalso
            unfold dynTo at hd
            split at hd
            · rename_i e;rw [e] at q;cases q
            · rename_i e;rw [e] at q;cases q
            · cases hd
          · exact q
        obtain ⟨z1,z2⟩:=Bool.and_eq_true_iff.1 hz
        have hxz:x ∈ [z]:=hx.2 [z] (fun y hy=>by rw [List.mem_singleton] at hy;subst hy;simpa using z1) (by
          unfold okDy
          rw [hd]
          simp [z2])
        rw [List.mem_singleton] at hxz
        subst hxz
        exact ⟨fun s kk hk'=>(by rw [show slotK (Frame.enter P x as .normal).fn s=none from no_slots z2 s] at hk';cases hk'),enter_items k2 k3 k5⟩
      | none =>
        have hpn:okPan fr.fn o.op=false/\okOp P [] o.op=false:=by
          unfold okDy at hnil
          rw [hd] at hnil
          exact ⟨(Bool.or_eq_false_iff.1 hnil).2,(Bool.or_eq_false_iff.1 hnil).1⟩
        have hop:okOp P S o.op=true:=by
          unfold okDy at hk
          rw [hd] at hk
          dsimp only at hk
          rw [hpn.1] at hk
          simpa using hk
        have hop':okOp P [] o.op=false:=hpn.2
        have hsl:=(Bool.and_eq_true_iff.1 (oper_of h.items hto hi)).1
        have hw:Region.wanted o (yielded ops fr.tmps)=true:=by
          cases q:Region.wanted o (yielded ops fr.tmps) with
          | true=>rfl
          | false =>
            exfalso
            obtain ⟨fn',tmps,todo,defers,mode,kind,round⟩:=fr
            have hr:=ho.round
            simp only at hr hm hto q
            subst hr hm hto
            simp [stepG,stepG.exec,hi,q] at hst
        rw [step_op ho.round hm hto hi hw] at hst
        generalize hoo:o.op=oo at *
        unfold isCall at hcall
        split at hcall
        case h_2=>cases hcall
        rename_i cl
        obtain ⟨callee,as0,ts⟩:=cl
        cases callee with
        | builtin b=>exfalso;have:okOp P [] (.call ⟨.builtin b,as0,ts⟩)=okOp P S (.call ⟨.builtin b,as0,ts⟩):=rfl;rw [hop,hop'] at this;cases this
        | invoke rc nm=>cases hop
        | value v =>
          cases v with
          | tmp s=>cases hop
          | const c=>cases hop
          | global gg=>cases hop
          | func z =>
            have hz:z ∈ S:=by simpa [okOp] using hop
            obtain ⟨fz,z2,z3,z4,z5⟩:=hS z hz
            have e1:execOp fr.eval o=callFunc z ((#[]++as0.map fr.eval)++#[]):=by
              unfold execOp
              simp only [hoo]
              rfl
            rw [e1] at hst
            have e2:=enter_step ho.kind hto (run_call z2 z3 z4 _ w) hst
            rw [e2]
            refine ⟨fun p kk hk'=>?_,enter_items z2 z3 z5⟩
            rw [enter_eval]
            have e3:((#[]++as0.map fr.eval)++#[]:Array Value)=as0.map fr.eval:=by simp
            rw [e3]
            by_cases hp:p<as0.size
            · have hc:=List.all_eq_true.1 hsl p (List.mem_range.2 hp)
              rw [show slotK z p=some kk from hk'] at hc
              dsimp only at hc
              cases ha:as0[p]? with
              | none=>rw [ha] at hc;cases hc
              | some a =>
                rw [ha] at hc
                rw [Array.getElem?_map,ha]
                cases a with
                | tmp s=>exact h.val s kk (by simpa using hc)
                | const c=>cases hc
                | global gg=>cases hc
                | func ff =>
                  have hf:kk = .fn ff:=by simpa using hc
                  subst hf
                  exact .inr ⟨#[],#[],rfl⟩
            · rw [show (as0.map fr.eval)[p]?=none by simp;omega]
              exact vk_undef kk
    · rcases List.mem_cons.1 q with rfl | q
      · exact ⟨h,ops,i,r,k,o,hto,hi,hcall⟩
      · exact ht t q
  | back v hm =>
    exact ⟨(ht _ (.head _)).finish v,fun t q=>ht t (.tail _ q)⟩
  | up ch hm =>
    exact ⟨(ht _ (.head _)).gd.raise ch,fun t q=>ht t (.tail _ q)⟩
end
end Go.Proofs.YteaieagkjepgiaaGreatDoor
/- . -/
namespace Go.Proofs.YteaieagkjepgiaaGreatDoor
set_option maxRecDepth 100000
open Go.Conc
structure Env (T:Tables) (f g:Array Func) (ok:Op->Bool) (S S':List FuncId) (F:FuncId->List Lp):Prop where
  fine:∀ x ∈ S,Fine ok f g x
  fine':∀ x ∈ S',Fine (okOp ⟨T,f⟩ S') f f x
  st:∀ b,(⟨T,f⟩:Program).stepOf b=none
  st₁:∀ b,(⟨T,g⟩:Program).stepOf b=none
  lp:∀ x,∀ L ∈ F x,LpOk ⟨T,f⟩ S S' L
  lq:∀ x,∀ L ∈ F x,LqOk ⟨T,f⟩ S L
  o5:∀ x,∀ L ∈ F x,∀ j o,j+1<L.o5.size->L.o5[j]?=some o->okOp ⟨T,f⟩ S o.op=true
  fn:∀ x,∀ L ∈ F x,L.fn=x
  dst:∀ x,∀ L ∈ F x,(L.o5[L.o5.size - 1]?).bind (·.dst)=some L.slot
  sz:∀ x,∀ L ∈ F x,∀ fn,f[x]?=some fn->L.slot<fn.ntmps/\L.pair<fn.ntmps/\L.flag<fn.ntmps
  ent:∀ x ∈ S,∀ as,Idle (okDy ⟨T,f⟩ S x) (F x) (Frame.enter ⟨T,f⟩ x as .normal)
  sl:Sl ⟨T,f⟩ S
  cl:∀ x,∀ L ∈ F x,∀ o,L.o5[L.o5.size - 1]?=some o->isCall o.op=true
  rc:∀ x,∀ L ∈ F x,∃ o ct el d z,L.ops[0]?=some o/\o.op = .recv ct (.tmp L.slot) true/\(∀ y,Region.wanted o y=true) /\
    ∀ P:Program,(P=⟨T,f⟩\/P=⟨T,g⟩)->(∀ w es,(underlying ct).runT P w es=(.ok (.chan d el) w,es))/\∀ w es,(zeroValue el).runT P w es=(.ok z w,es)
section
variable {ok:Op->Bool} {F:FuncId->List Lp} {S S':List FuncId} {T:Tables} {f g:Array Func} {fr fr':Frame} {tops tops':List Frame} {w w':World}
structure Id (T:Tables) (f:Array Func) (S:List FuncId) (F:FuncId->List Lp) (fr:Frame) (tops:List Frame):Prop where
  top:Idle (okDy ⟨T,f⟩ S fr.fn) (F fr.fn) fr
  low:∀ t ∈ tops,Waits (okDy ⟨T,f⟩ S t.fn) (F t.fn) t
  sz:Sz ⟨T,f⟩ fr
  szt:∀ t ∈ tops,Sz ⟨T,f⟩ t
  gd:Gd fr
  gdt:∀ t ∈ tops,Gw t
structure Hd (T:Tables) (f:Array Func) (S S':List FuncId) (F:FuncId->List Lp) (c:Nat) (fr:Frame) (tops:List Frame):Prop where
  held:∃ x,∃ L ∈ F x,∃ k,(∀ i ∈ k,CalmI (okDy ⟨T,f⟩ S x) (F x) i)/\Held S' (fun t=>Waits (okDy ⟨T,f⟩ S t.fn) (F t.fn) t) { L with rest:=k } c fr tops
  sz:Sz ⟨T,f⟩ fr
  szt:∀ t ∈ tops,Sz ⟨T,f⟩ t
  gd:Gd fr
  gdt:∀ t ∈ tops,Gw t
theorem Env.ff (h:Env T f g ok S S' F):∀ x ∈ S,Fine ok f f x:=fun x hx=>⟨⟨rfl,(h.fine x hx).1.2⟩,(h.fine x hx).2⟩
theorem Id.near {Fin:Frame->World->Prop} (hE:Env T f g ok S S' F) (h:Id T f S F fr tops) (ho:Ord ok S fr) (htops:∀ t ∈ tops,Ord ok S t/\t.mode = .run) (hsp:¬ Spec ⟨T,f⟩ S fr tops) (hn:Near ⟨T,f⟩ S fr tops fr' tops') {X:List Frame} {es:Array Event}
    (hst:stepG ⟨T,f⟩ true (Gr fr (tops++X)) w = .go (Gr fr' (tops'++X)) w' es) (hc:∀ ch,fr.mode ≠ .panicking ch):Id T f S F fr' tops':=by
  obtain ⟨h1,h2⟩:=h.top.nearF h.low hE.lq hsp ho hn hst hE.ent hc
  obtain ⟨h3,h4⟩:=sz_near h.sz h.szt htops hn
  obtain ⟨h5,h6⟩:=gd_near hE.sl h.gd h.gdt ho hn hst
  exact ⟨h1,h2,h3,h4,h5,h6⟩
theorem Hd.near {c:Nat} (hE:Env T f g ok S S' F) (h:Hd T f S S' F c fr tops) (ho:Ord ok S fr) (htops:∀ t ∈ tops,Ord ok S t/\t.mode = .run) (hsp:¬ Spec ⟨T,f⟩ S fr tops) (hn:Near ⟨T,f⟩ S fr tops fr' tops') {X:List Frame} {es:Array Event}
    (hst:stepG ⟨T,f⟩ true (Gr fr (tops++X)) w = .go (Gr fr' (tops'++X)) w' es) (hc:∀ ch,fr.mode ≠ .panicking ch) (hc':∀ ch,fr'.mode ≠ .panicking ch):Hd T f S S' F c fr' tops':=by
  obtain ⟨x,L,hL,k,hk,hh⟩:=h.held
  obtain ⟨h3,h4⟩:=sz_near h.sz h.szt htops hn
  obtain ⟨h5,h6⟩:=gd_near hE.sl h.gd h.gdt ho hn hst
  refine ⟨⟨x,L,hL,k,hk,hh.near ((hE.lp x L hL).rest k) ho hsp hn hst ?_ hc hc'⟩,h3,h4,h5,h6⟩
  show ∀ y ∈ S',Fine L.ok f f y
  rw [(hE.lp x L hL).ok]
  exact hE.fine'
end
end Go.Proofs.YteaieagkjepgiaaGreatDoor
/- . -/
namespace Go.Proofs.YteaieagkjepgiaaGreatDoor
set_option maxRecDepth 100000
open Go.Conc
section
variable {ok:Op->Bool} {F:FuncId->List Lp} {S S':List FuncId} {T:Tables} {f g:Array Func} {fr fr':Frame} {tops tops':List Frame} {w w':World} {V:Lp->Frame->List Value->Prop} {Fin:Frame->World->Prop}
inductive Jump (T:Tables) (f:Array Func) (S:List FuncId) (F:FuncId->List Lp) (V:Lp->Frame->List Value->Prop):Frame->List Frame->World->Frame->List Frame->World->Prop
  | take {fr:Frame} {tops:List Frame} {w:World} (x:FuncId) (L:Lp) (hL:L ∈ F x) (k:List Item) (c cap s r:Nat) (v:Value) (vs:List Value) (hm:fr.mode = .run) (hsp:Spec ⟨T,f⟩ S fr tops) (e:fr.todo = .inRegion L.ops [0,1]::.code (.seq L.test L.body)::L.tl k) (hs:fr.tmps[L.slot]?=some (.chan (some c)))
      (hc:w.heap[c]?=some (.chan cap (v::vs).toArray true s r false)) (hl:Leap ⟨T,f⟩ fr tops w (fr.finish (.tuple #[v,.bool true])) tops (w.setChan c cap vs.toArray true s (r+1) false)) :
      Jump T f S F V fr tops w (fr.finish (.tuple #[v,.bool true])) tops (w.setChan c cap vs.toArray true s (r+1) false)
  | shut {fr:Frame} {tops:List Frame} {w:World} (x:FuncId) (L:Lp) (hL:L ∈ F x) (k:List Item) (c cap s r:Nat) (z:Value) (hm:fr.mode = .run) (hsp:Spec ⟨T,f⟩ S fr tops) (e:fr.todo = .inRegion L.ops [0,1]::.code (.seq L.test L.body)::L.tl k) (hs:fr.tmps[L.slot]?=some (.chan (some c)))
      (hc:w.heap[c]?=some (.chan cap #[] true s r false)) (hz:AtRc ⟨T,f⟩ fr c z) (hl:Leap ⟨T,f⟩ fr tops w (fr.finish (.tuple #[z,.bool false])) tops w) :
      Jump T f S F V fr tops w (fr.finish (.tuple #[z,.bool false])) tops w
  | made {fr:Frame} {tops:List Frame} {w:World} (L:Lp) (hL:L ∈ F fr.fn) (k:List Item) (vs:List Value) (cap n:Nat) (hv:V L fr vs) (hm:fr.mode = .run) (hsp:Spec ⟨T,f⟩ S fr tops) (e:fr.todo = .inRegion L.o5 [L.o5.size - 1]::.code L.loop::k) (hk:∀ i ∈ k,CalmI (okDy ⟨T,f⟩ S fr.fn) (F fr.fn) i)
      (hl:Leap ⟨T,f⟩ fr tops w (fr.finish (.chan (some w.heap.size))) tops (w.alloc (.chan cap vs.toArray true n 0 false))) :
      Jump T f S F V fr tops w (fr.finish (.chan (some w.heap.size))) tops (w.alloc (.chan cap vs.toArray true n 0 false))
def CallT (T:Tables) (f:Array Func) (ok:Op->Bool) (S:List FuncId) (F:FuncId->List Lp) (V:Lp->Frame->List Value->Prop):Prop:=
  ∀ (fr:Frame) (tops:List Frame) (w:World) (L:Lp) (k:List Item),L ∈ F fr.fn->Ord ok S fr->fr.mode = .run->Sz ⟨T,f⟩ fr->fr.todo = .inRegion L.o5 [L.o5.size - 1]::.code L.loop::k ->
    (∃ vs cap n,V L fr vs/\Leap ⟨T,f⟩ fr tops w (fr.finish (.chan (some w.heap.size))) tops (w.alloc (.chan cap vs.toArray true n 0 false)))\/∀ Fin,¬ Tm2 ⟨T,f⟩ Fin fr tops w
def Inv (T:Tables) (f:Array Func) (S S':List FuncId) (F:FuncId->List Lp) (fr:Frame) (tops:List Frame) (w:World):Prop:=
  Id T f S F fr tops\/∃ c,Hd T f S S' F c fr tops/\∃ cap buf s r,w.heap[c]?=some (.chan cap buf true s r false)
theorem Inv.gd (h:Inv T f S S' F fr tops w):Gd fr:=by
  rcases h with h | ⟨c,h,_⟩
  · exact h.gd
  · exact h.gd
theorem ord_next (hE:Env T f g ok S S' F) (ho:Ord ok S fr) (ht:∀ t ∈ tops,Ord ok S t/\t.mode = .run) (hsp:¬ Spec ⟨T,f⟩ S fr tops) (hg:Gd fr) {τ:Nat->Question->Nat} {es:Array Event} {X:List Frame}
    (hst:stepG ⟨T,f⟩ true (Gr fr (tops++X)) (Rt w τ) = .go (Gr fr' (tops'++X)) w' es):Ord ok S fr'/\∀ t ∈ tops',Ord ok S t/\t.mode = .run:=by
  rcases use (w:=w) ho ht hE.ff hE.st hsp hg.val X τ with ⟨fr2,tops2,w2,es2,e,_,h1,h2,_⟩ | ⟨o,w2,es2,e⟩
  · rw [hst] at e
    injection e with q1 q2 q3
    injection q1 with q4 q5
    have q6:=List.append_cancel_right q5
    subst q4 q6
    exact ⟨h1,h2⟩
  · rw [hst] at e
    cases e
theorem calm_next (hE:Env T f g ok S S' F) (ho:Ord ok S fr) (ht:∀ t ∈ tops,Ord ok S t/\t.mode = .run) (hsp:¬ Spec ⟨T,f⟩ S fr tops) (hg:Gd fr) {τ:Nat->Question->Nat} {es:Array Event} {X:List Frame}
    (hst:stepG ⟨T,f⟩ true (Gr fr (tops++X)) (Rt w τ) = .go (Gr fr' (tops'++X)) w' es) (hT:Tm2 ⟨T,f⟩ Fin fr' tops' w'):(∀ ch,fr.mode ≠ .panicking ch)/\∀ ch,fr'.mode ≠ .panicking ch:=by
  obtain ⟨h1,h2⟩:=ord_next hE ho ht hsp hg hst
  have c2:=hT.calm hE.ff h1 h2
  refine ⟨fun ch hm=>?_,c2⟩
  cases tops with
  | nil=>exact hsp (.inl ⟨rfl,by rw [hm];simp⟩)
  | cons t tops =>
    obtain ⟨_,fn,k2,_⟩:=(hE.fine fr.fn ho.fn).1
    have:=panic_up (T:=T) (f:=f) ho hm k2 true t (tops++X) (Rt w τ)
    rw [List.cons_append,this] at hst
    injection hst with q1 q2 q3
    injection q1 with q4 q5
    exact c2 ch (by rw [<-q4];exact raise_mode (ht t (.head _)).2 ch)
theorem inv_step (hE:Env T f g ok S S' F) (ho:Ord ok S fr) (ht:∀ t ∈ tops,Ord ok S t/\t.mode = .run) (hsp:¬ Spec ⟨T,f⟩ S fr tops) (hn:Near ⟨T,f⟩ S fr tops fr' tops') (kc:Kc w w') {τ:Nat->Question->Nat} {es:Array Event} {X:List Frame}
    (hst:stepG ⟨T,f⟩ true (Gr fr (tops++X)) (Rt w τ) = .go (Gr fr' (tops'++X)) w' es) (hT:Tm2 ⟨T,f⟩ Fin fr' tops' w') (h:Inv T f S S' F fr tops w):Inv T f S S' F fr' tops' w':=by
  obtain ⟨c1,c2⟩:=calm_next hE ho ht hsp h.gd hst hT
  rcases h with h | ⟨c,h,cap,buf,s,r,hc⟩
  · exact .inl (h.near (Fin:=Fin) hE ho ht hsp hn hst c1)
  · exact .inr ⟨c,h.near hE ho ht hsp hn hst c1 c2,cap,buf,s,r,(kc _ _ _ _ _ _ _).2 hc⟩
theorem made_hd (hE:Env T f g ok S S' F) (ho:Ord ok S fr) (hi:Id T f S F fr tops) {L:Lp} (hL:L ∈ F fr.fn) {k:List Item} (hk:∀ i ∈ k,CalmI (okDy ⟨T,f⟩ S fr.fn) (F fr.fn) i) (hm:fr.mode = .run) (e:fr.todo = .inRegion L.o5 [L.o5.size - 1]::.code L.loop::k) (c:Nat) :
    Hd T f S S' F c (fr.finish (.chan (some c))) tops:=by
  obtain ⟨_,fn,k2,_⟩:=(hE.fine fr.fn ho.fn).1
  obtain ⟨z1,z2,z3⟩:=hE.sz _ L hL fn k2
  have hz:=hi.sz fn k2
  refine ⟨⟨fr.fn,L,hL,k,hk,.top (made_place c hm (hE.fn _ L hL).symm e (hE.dst _ L hL) (by omega) (by omega) (by omega)) hi.low⟩,fun fn' q=>?_,hi.szt,?_,hi.gdt⟩
  rotate_left
  · obtain ⟨o,q1,_⟩:=(hE.lq _ L hL).last
    exact hi.gd.fin e q1 (make_call (hE.cl _ L hL o q1)) _
  rw [finish_size _ _ (ord_extern ho)]
  exact hi.sz fn' (by rw [finish_fn] at q;exact q)
theorem Hd.at {c:Nat} (hE:Env T f g ok S S' F) (h:Hd T f S S' F c fr tops) (hsp:Spec ⟨T,f⟩ S fr tops) (ho:Ord ok S fr):∃ x,∃ L ∈ F x,∃ k z,fr.mode = .run/\fr.todo = .inRegion L.ops [0,1]::.code (.seq L.test L.body)::L.tl k/\fr.tmps[L.slot]?=some (.chan (some c))/\AtRc ⟨T,f⟩ fr c z/\AtRc ⟨T,g⟩ fr c z /\
    Id T f S F (fr.finish (.tuple #[z,.bool false])) tops/\∀ v,Hd T f S S' F c (fr.finish (.tuple #[v,.bool true])) tops:=by
  obtain ⟨x,L,hL,k,hk,hh⟩:=h.held
  have hlp:=hE.lp x L hL
  obtain ⟨hp,e,hq⟩:=hh.spec (hlp.rest k) hsp
  obtain ⟨o,ct,el,d,z,o1,o2,o3,o4⟩:=hE.rc x L hL
  have hev:fr.eval (.tmp L.slot) = .chan (some c):=by simp [Frame.eval,hp.chan]
  have hx:x=fr.fn:=(hE.fn x L hL).symm.trans hp.fn.symm
  obtain ⟨o0,a1,a2,a3,a4⟩:=hlp.op0
  rw [o1] at a1
  cases a1
  have hd:(L.ops[0]?).bind (·.dst)=some L.pair:=by rw [o1];exact a3
  have sz':∀ v:Value,Sz ⟨T,f⟩ (fr.finish v):=fun v fn q=>by
    rw [finish_size _ _ (ord_extern ho)]
    exact h.sz fn (by rw [finish_fn] at q;exact q)
  have gd':∀ v:Value,Gd (fr.finish v):=fun v=>h.gd.fin e o1 (fun kk=>by rw [o2];rfl) v
  refine ⟨x,L,hL,k,z,hp.mode,e,hp.chan,at_rc ho hp.mode e o1 (o3 _) o2 hev (o4 _ (.inl rfl)).1 (o4 _ (.inl rfl)).2,at_rc ho hp.mode e o1 (o3 _) o2 hev (o4 _ (.inr rfl)).1 (o4 _ (.inr rfl)).2,?_,fun v=>?_⟩
  · refine ⟨?_,hq,sz' _,h.szt,gd' _,h.gdt⟩
    rw [finish_fn,<-hx]
    exact shut_idle hL hk hp e hd z
  · exact ⟨⟨x,L,hL,k,hk,.top (hp.take e hd hlp.pair v) hq⟩,sz' _,h.szt,gd' _,h.gdt⟩
theorem jumps (hE:Env T f g ok S S' F) (hC:CallT T f ok S F V) (ho:Ord ok S fr) (ht:∀ t ∈ tops,Ord ok S t/\t.mode = .run) (hm:fr.mode = .run) (hsp:Spec ⟨T,f⟩ S fr tops) (h:Inv T f S S' F fr tops w) (hT:Tm2 ⟨T,f⟩ Fin fr tops w) :
    ∃ fr' tops' w',Jump T f S F V fr tops w fr' tops' w'/\Leap ⟨T,f⟩ fr tops w fr' tops' w'/\Ord ok S fr'/\(∀ t ∈ tops',Ord ok S t/\t.mode = .run)/\Inv T f S S' F fr' tops' w':=by
  rcases h with h | ⟨c,h,cap,buf,s,r,hc⟩
  · obtain ⟨L,hL,k,hk,e⟩:=h.top.spec (hE.lq _) hm hsp (fun L hL j o hj ho=>okDy_of (hE.o5 _ L hL j o hj ho))
    rcases hC fr tops w L k hL ho hm h.sz e with ⟨vs,cap,n,hv,hl⟩ | hno
    · refine ⟨_,_,_,.made L hL k vs cap n hv hm hsp e hk hl,hl,ho.finish _,ht,.inr ⟨w.heap.size,made_hd hE ho h hL hk hm e _,cap,vs.toArray,n,0,?_⟩⟩
      show (w.heap.push _)[w.heap.size]?=_
      simp
    · exact absurd hT (hno _)
  · obtain ⟨x,L,hL,k,z,hm',e,hs,a1,a2,hid,hhd⟩:=h.at hE hsp ho
    rcases recv_some a1 hm hc hT with hb | ⟨rfl,_⟩
    · obtain ⟨l⟩:=buf
      cases l with
      | nil=>simp at hb
      | cons v vs =>
        have hl:=leap_recv (tops:=tops) a1 hc hb
        have e1:((v::vs).toArray.extract 1 (v::vs).toArray.size)=vs.toArray:=by simp
        have e2:(v::vs).toArray.getD 0 undef=v:=rfl
        have hl':Leap ⟨T,f⟩ fr tops w (fr.finish (.tuple #[v,.bool true])) tops (w.setChan c cap vs.toArray true s (r+1) false):=by
          rw [<-e1]
          exact hl
        refine ⟨_,_,_,.take x L hL k c cap s r v vs hm hsp e hs hc hl',hl',ho.finish _,ht,.inr ⟨c,hhd v,cap,vs.toArray,s,r+1,?_⟩⟩
        have hlt:c<w.heap.size:=(Array.getElem?_eq_some_iff.1 hc).1
        simp [World.setChan,hlt]
    · have hl:=leap_shut (tops:=tops) a1 hc
      exact ⟨_,_,_,.shut x L hL k c cap s r z hm hsp e hs hc a1 hl,hl,ho.finish _,ht,.inl hid⟩
theorem tree (hE:Env T f g ok S S' F) (hC:CallT T f ok S F V) (ho:Ord ok S fr) (ht:∀ t ∈ tops,Ord ok S t/\t.mode = .run) (h:Inv T f S S' F fr tops w) (hT:Tm2 ⟨T,f⟩ Fin fr tops w):Tree ⟨T,f⟩ S (Jump T f S F V) fr tops w:=
  bar (I:=Inv T f S S' F) hE.ff hE.st (fun fr tops w hi=>hi.gd.val) (fun fr tops w fr' tops' w' τ es ho ht hsp hn kc hst hT hi=>inv_step hE ho ht hsp hn kc hst hT hi) (fun fr tops w ho ht hm hsp hi hT=>jumps hE hC ho ht hm hsp hi hT) ho ht h hT
end
end Go.Proofs.YteaieagkjepgiaaGreatDoor
/- . -/
namespace Go.Proofs.YteaieagkjepgiaaGreatDoor
set_option maxRecDepth 100000
open Go.Conc
open Go.ConcN (sumTo upd sumTo_upd upd_ne upd_same)
section
variable {ok:Op->Bool} {F:FuncId->List Lp} {S S':List FuncId} {T:Tables} {f g:Array Func} {P:Program} {fr fr':Frame} {tops tops':List Frame} {w w' w₀ w₁:World} {V:Lp->Frame->List Value->Prop} {Fin:Frame->World->Prop} {Post:Value->World->Prop} {τ₀:Nat->Question->Nat}
def Jw (w₀ w w₁:World):Prop:=∀ (b c:Nat) (bf:Array Value) (cl:Bool) (s r:Nat) (t:Bool),w₀.heap[b]?=some (.chan c bf cl s r t)->w.heap[b]?=some (.chan c bf cl s r t)/\w₁.heap[b]?=some (.chan c bf cl s r t)
theorem Jw.kc {w₁':World} (h:Jw w₀ w w₁) (k:Kc w w') (k₁:Kc w₁ w₁'):Jw w₀ w' w₁':=fun b c bf cl s r t e=>⟨(k _ _ _ _ _ _ _).2 (h _ _ _ _ _ _ _ e).1,(k₁ _ _ _ _ _ _ _).2 (h _ _ _ _ _ _ _ e).2⟩
def New (w₀:World) (b:Nat):Prop:=∀ c bf cl s r t,w₀.heap[b]? ≠ some (.chan c bf cl s r t)
theorem set_other {w:World} {c cap:Nat} {buf:Array Value} {cl tm:Bool} {s r b:Nat} (h:b ≠ c):(w.setChan c cap buf cl s r tm).heap[b]?=w.heap[b]?:=by
  simp [World.setChan,Ne.symm h]
theorem set_same {w:World} {c cap:Nat} {buf:Array Value} {cl tm:Bool} {s r:Nat} {o:Obj} (h:w.heap[c]?=some o):(w.setChan c cap buf cl s r tm).heap[c]?=some (.chan cap buf cl s r tm):=by
  have hlt:c<w.heap.size:=(Array.getElem?_eq_some_iff.1 h).1
  simp [World.setChan,hlt]
theorem sim_set {c cap cap₁:Nat} {buf buf₁:Array Value} {cl cl₁ tm tm₁:Bool} {s r s₁ r₁:Nat} {o o₁:Obj} (h:Sim (some 0) w w₁) (hc:w.heap[c]?=some o) (hc₁:w₁.heap[c]?=some o₁):Sim (some 0) (w.setChan c cap buf cl s r tm) (w₁.setChan c cap₁ buf₁ cl₁ s₁ r₁ tm₁):=by
  refine ⟨h.os,h.output,by simpa [World.setChan] using h.size,fun b=>?_⟩
  by_cases e:b=c
  · subst e
    exact .inr ⟨⟨0,rfl,Nat.zero_le _⟩,⟨_,_,_,_,_,_,set_same hc⟩,⟨_,_,_,_,_,_,set_same hc₁⟩⟩
  · rw [set_other e,set_other e]
    exact h.block b
theorem sim_set1 {c cap₁:Nat} {buf₁:Array Value} {cl₁ tm₁:Bool} {s₁ r₁:Nat} {o₁:Obj} {cap:Nat} {buf:Array Value} {cl tm:Bool} {s r:Nat} (h:Sim (some 0) w w₁) (hc:w.heap[c]?=some (.chan cap buf cl s r tm)) (hc₁:w₁.heap[c]?=some o₁):Sim (some 0) w (w₁.setChan c cap₁ buf₁ cl₁ s₁ r₁ tm₁):=by
  refine ⟨h.os,h.output,by simpa [World.setChan] using h.size,fun b=>?_⟩
  by_cases e:b=c
  · subst e
    exact .inr ⟨⟨0,rfl,Nat.zero_le _⟩,⟨_,_,_,_,_,_,hc⟩,⟨_,_,_,_,_,_,set_same hc₁⟩⟩
  · rw [set_other e]
    exact h.block b
theorem jw_set {c cap cap₁:Nat} {buf buf₁:Array Value} {cl cl₁ tm tm₁:Bool} {s r s₁ r₁:Nat} (h:Jw w₀ w w₁) (hn:New w₀ c):Jw w₀ (w.setChan c cap buf cl s r tm) (w₁.setChan c cap₁ buf₁ cl₁ s₁ r₁ tm₁):=by
  intro b c' bf cl' s' r' t' e
  have hb:b ≠ c:=fun q=>by subst q;exact hn _ _ _ _ _ _ e
  rw [set_other hb,set_other hb]
  exact h _ _ _ _ _ _ _ e
theorem jw_set1 {c cap₁:Nat} {buf₁:Array Value} {cl₁ tm₁:Bool} {s₁ r₁:Nat} (h:Jw w₀ w w₁) (hn:New w₀ c):Jw w₀ w (w₁.setChan c cap₁ buf₁ cl₁ s₁ r₁ tm₁):=by
  intro b c' bf cl' s' r' t' e
  have hb:b ≠ c:=fun q=>by subst q;exact hn _ _ _ _ _ _ e
  rw [set_other hb]
  exact h _ _ _ _ _ _ _ e
theorem two_step (hE:Env T f g ok S S' F) (hsp:¬ Spec ⟨T,f⟩ S fr tops) (hg:Gd fr) (ho:Ord ok S fr) (ht:∀ t ∈ tops,Ord ok S t/\t.mode = .run) (hM:Tm2 ⟨T,f⟩ Fin fr tops w) (hS:Sim (some 0) w w₁) :
    ∃ fr' tops' w' w₁' es,stepG ⟨T,f⟩ true (Gr fr (tops++[sent ⟨T,f⟩])) (Rt w (glue w w₁ w₁.drawn)) = .go (Gr fr' (tops'++[sent ⟨T,f⟩])) w' es/\stepG ⟨T,g⟩ true (Gr fr tops) w₁ = .go (Gr fr' tops') w₁' es/\Near ⟨T,f⟩ S fr tops fr' tops'/\Kc w w'/\Kc w₁ w₁' /\
      Ord ok S fr'/\(∀ t ∈ tops',Ord ok S t/\t.mode = .run)/\Sim (some 0) w' w₁'/\w₁'.tape=w₁.tape/\Quietly es/\Tm2 ⟨T,f⟩ Fin fr' tops' w':=by
  have key:Both (some 0) ok S ⟨T,f⟩ ⟨T,g⟩ true true fr tops [sent ⟨T,f⟩] [] (Rt w (glue w w₁ w₁.drawn)) (w₁.at w₁.drawn):=both_step ho ht hE.fine hE.st hE.st₁ ⟨hS.os,hS.output,hS.size,hS.block⟩ hsp hg.val
  obtain ⟨fr3,tops3,w3,es3,e3,_,_,_,_,_,_,hM3,_⟩:=tm_step ho ht hE.ff hE.st hsp hg.val hM _ (glue_ext w w₁ w₁.drawn)
  rcases key with ⟨fr',tops',w',k,es,e,nr,h1,h2,t1,d1,hq,kc,x⟩ | ⟨o,w',es,e⟩
  · obtain ⟨w₁',e',s',t',d',kc'⟩:=x (glue_agree w w₁ w₁.drawn k)
    have e4:=e3
    rw [e] at e4
    injection e4 with r1 r2 r3
    injection r1 with r4 r5
    have r6:=List.append_cancel_right r5
    subst r4 r6 r2
    rw [List.append_nil,List.append_nil] at e'
    exact ⟨fr',tops',w',w₁',es,e,e',nr,kc,kc',h1,h2,s',t',hq,hM3⟩
  · rw [e] at e3
    cases e3
theorem closing_recv {a:Goroutine} {gs:Array Goroutine} {sl:Option (Nat × Nat)} {t:Trace} {q:Nat->Nat} {B c m j cap s r:Nat} {z:Value} {tm:Bool} (ha:a.status = .running) (hs:∀ v,stepG P true a v = .comm (Gr fr tops) #[rcase c z] true (.recv true) v #[]) (h0:gs[0]?=some a) (hL:Leavers P t gs q) (hP:Pc c m j B t) (hB:c<B)
    (hc:w₁.heap[c]?=some (.chan cap #[] true s r tm))
    (k:∀ (d:Nat) (gs':Array Goroutine) (sl':Option (Nat × Nat)) (t':Trace) (q':Nat->Nat) (B':Nat),gs'[0]?=some (Gr (fr.finish (.tuple #[z,.bool false])) tops)->Leavers P t' gs' q'->Pi B' t'->Win P Post gs' (w₁.at d) sl' t'):Win P Post gs w₁ sl t:=by
  obtain ⟨N,gs',d,d',sl',sl'',t',q',hr,hsz,h0',hL',hP',hst⟩:=turn0 (keeps_pc c m j) _ gs a w₁ sl t q (Nat.le_refl _) h0 ha hL hP
  have hpart:partners (gs'.setIfInBounds 0 ph) c true=[]:=by
    refine partners_nil (fun i x hx=>?_)
    rcases Nat.eq_zero_or_pos i with rfl | hpos
    · have hlt:0<gs'.size:=(Array.getElem?_eq_some_iff.1 h0').1
      rw [Array.getElem?_setIfInBounds_self_of_lt hlt] at hx
      cases hx
      rfl
    · rw [Array.getElem?_setIfInBounds_ne (by omega)] at hx
      exact offersAt_of_not_blocked (by rcases (hL'.old i x hpos hx).status with y | y <;> rw [y] <;> simp) _ _
  have hrun:=crowd_recv_closed (P:=P) (sl:=sl'') (i:=0) (w:=w₁.at d') h0' (hs (w₁.at d')) (show (w₁.at d').heap[c]?=_ from hc) hpart
  refine Win.of hr (Win.step (hst.trans hrun) ?_)
  have hops:MemOp.ofEvents 0 a.frame.fn a.frame.place #[]++#[({ g:=0,fn:=(Gr fr tops).frame.fn,pos:=(Gr fr tops).frame.place,act:=.recvClosed c }:MemOp)]=#[({ g:=0,fn:=fr.fn,pos:=fr.place,act:=.recvClosed c }:MemOp)]:=by
    simp [MemOp.ofEvents]
  rw [hops]
  have hlt:0<gs'.size:=(Array.getElem?_eq_some_iff.1 h0').1
  have hd:∀ i,i ≠ 0->Deaf (t'++#[({ g:=0,fn:=fr.fn,pos:=fr.place,act:=.recvClosed c }:MemOp)]) i=Deaf t' i:=fun i hi=>Deaf_other t' (g':=0) (by omega) _ (fun op hop=>by rw [show op=_ by simpa using hop])
  refine k d' _ sl'' _ q' B ?_ ⟨fun i x hi hx=>?_,fun i hi=>?_⟩ (hP'.take hB fr.fn fr.place)
  · rw [Array.getElem?_setIfInBounds_self_of_lt hlt]
    rfl
  · rw [Array.getElem?_setIfInBounds_ne (by omega)] at hx
    rw [hd i (by omega)]
    exact hL'.old i x hi hx
  · have hi':gs'.size<=i:=by simpa using hi
    rw [hd i (by omega)]
    exact hL'.above i hi'
theorem shut_leavers {c j n:Nat} {gs:Array Goroutine} {t:Trace} {q:Nat->Nat} {B:Nat} {b':Goroutine} (hA:Af P c j gs t q B) (hj:gs[j]?=some b') (hq:QuitsD P n 0 b') (fn:FuncId) (pos:String) :
    Leavers P (t++MemOp.ofEvents j fn pos (closeEvents c)) gs (upd q j n)/\Pc c t.size j B (t++MemOp.ofEvents j fn pos (closeEvents c)):=by
  have hne:j ≠ 0:=by have:=hA.j0;omega
  have ho:∀ op ∈ MemOp.ofEvents j fn pos (closeEvents c),op.g=j:=fun op hop=>by obtain ⟨e,_,rfl⟩:=Go.Conc.mem_ofEvents hop;rfl
  have hown:Deaf (t++MemOp.ofEvents j fn pos (closeEvents c)) j=0:=by
    rw [closeOps]
    refine (Deaf_quiet (fun op hop d=>?_)).trans hA.hear
    rcases (by simpa using hop:op=_\/op=_) with rfl | rfl <;> rfl
  refine ⟨⟨fun i x hi hx=>?_,fun i hi=>?_⟩,Pc.of hA.past hne hA.hear hA.cB fn pos⟩
  · by_cases e:i=j
    · subst e
      rw [hj] at hx
      cases hx
      rw [upd_same,hown]
      exact hq
    · rw [upd_ne q n e,Deaf_other t (g':=j) (Ne.symm e) _ ho]
      exact hA.old i x hi e hx
  · have hlt:j<gs.size:=(Array.getElem?_eq_some_iff.1 hj).1
    rw [Deaf_other t (g':=j) (by omega) _ ho]
    exact hA.above i hi
end
end Go.Proofs.YteaieagkjepgiaaGreatDoor
/- . -/
namespace Go.Proofs.YteaieagkjepgiaaGreatDoor
set_option maxRecDepth 100000
open Go.Conc
open Go.ConcN (sumTo upd sumTo_upd upd_ne upd_same)
section
variable {ok:Op->Bool} {F:FuncId->List Lp} {S S':List FuncId} {T:Tables} {f g:Array Func} {fr fr':Frame} {tops tops':List Frame} {w w' w₀ w₁:World} {V:Lp->Frame->List Value->Prop} {Fin:Frame->World->Prop} {Post:Value->World->Prop} {τ₀:Nat->Question->Nat}
def CallP (T:Tables) (f g:Array Func) (ok:Op->Bool) (S:List FuncId) (F:FuncId->List Lp) (V:Lp->Frame->List Value->Prop) (Post:Value->World->Prop):Prop:=
  ∀ (fr:Frame) (tops:List Frame) (L:Lp) (k:List Item) (vs:List Value) (gs:Array Goroutine) (w₁:World) (sl:Option (Nat × Nat)) (t:Trace) (q:Nat->Nat) (B:Nat),L ∈ F fr.fn->V L fr vs->Ord ok S fr->fr.mode = .run->Sz ⟨T,f⟩ fr->fr.todo = .inRegion L.o5 [L.o5.size - 1]::.code L.loop::k ->
    gs[0]?=some (Gr fr tops)->Leavers ⟨T,g⟩ t gs q->Pi B t ->
    (∀ j d,Kid ⟨T,g⟩ Post w₁.heap.size j (Gr (fr.finish (.chan (some w₁.heap.size))) tops) vs ((w₁.at d).alloc (.chan 0 #[] false 0 0 false))) ->
    (vs=[]->∀ (j m d:Nat) (gs:Array Goroutine) (sl:Option (Nat × Nat)) (t:Trace) (q:Nat->Nat) (B:Nat),gs[0]?=some (Gr (fr.finish (.chan (some w₁.heap.size))) tops)->Leavers ⟨T,g⟩ t gs q->Pc w₁.heap.size m j B t->w₁.heap.size<B->Win ⟨T,g⟩ Post gs (((w₁.at d).alloc (.chan 0 #[] false 0 0 false)).setChan w₁.heap.size 0 #[] true 0 0 false) sl t)->Win ⟨T,g⟩ Post gs w₁ sl t
def EndP (T:Tables) (f g:Array Func) (ok:Op->Bool) (S:List FuncId) (Fin:Frame->World->Prop) (Post:Value->World->Prop) (w₀:World) (τ₀:Nat->Question->Nat):Prop:=
  ∀ (fr:Frame) (w w₁:World),Ord ok S fr->fr.mode = .returning->(∀ τ,Ext w τ->Fin fr (Rt w τ))->Sim (some 0) w w₁->Jw w₀ w w₁->w₁.tape=τ₀->∃ fn v,g[fr.fn]?=some fn/\results fn fr.tmps=pure v/\(⟨T,g⟩:Program).inits.idxOf? fr.fn=none/\∀ d,Post v (w₁.at d)
structure Rel (w₀:World) (τ₀:Nat->Question->Nat) (w w₁:World):Prop where
  sim:Sim (some 0) w w₁
  jw:Jw w₀ w w₁
  tape:w₁.tape=τ₀
theorem Rel.at (h:Rel w₀ τ₀ w w₁) (d:Nat):Rel w₀ τ₀ w (w₁.at d):=⟨⟨h.sim.os,h.sim.output,h.sim.size,h.sim.block⟩,h.jw,h.tape⟩
structure Node (T:Tables) (f g:Array Func) (ok:Op->Bool) (S S':List FuncId) (F:FuncId->List Lp) (Fin:Frame->World->Prop) (Post:Value->World->Prop) (w₀:World) (τ₀:Nat->Question->Nat) (fr:Frame) (tops:List Frame) (w:World):Prop where
  idle:Id T f S F fr tops->∀ (gs:Array Goroutine) (w₁:World) (sl:Option (Nat × Nat)) (t:Trace) (q:Nat->Nat) (B:Nat),gs[0]?=some (Gr fr tops)->Leavers ⟨T,g⟩ t gs q->Pi B t->Rel w₀ τ₀ w w₁->Win ⟨T,g⟩ Post gs w₁ sl t
  shut:∀ (c:Nat),Hd T f S S' F c fr tops->New w₀ c->∀ (cap s r s₁ r₁ j m:Nat) (gs:Array Goroutine) (w₁:World) (sl:Option (Nat × Nat)) (t:Trace) (q:Nat->Nat) (B:Nat),w.heap[c]?=some (.chan cap #[] true s r false)->w₁.heap[c]?=some (.chan 0 #[] true s₁ r₁ false) ->
    gs[0]?=some (Gr fr tops)->Leavers ⟨T,g⟩ t gs q->Pc c m j B t->c<B->Rel w₀ τ₀ w w₁->Win ⟨T,g⟩ Post gs w₁ sl t
  run:∀ (c:Nat),Hd T f S S' F c fr tops->New w₀ c->∀ (cap s r s₁ r₁ j:Nat) (vs:List Value) (w₁:World),w.heap[c]?=some (.chan cap vs.toArray true s r false)->Open c s₁ r₁ w₁->Rel w₀ τ₀ w w₁->Kid ⟨T,g⟩ Post c j (Gr fr tops) vs w₁
theorem shutw_of {c j cap s r:Nat} (hE:Env T f g ok S S' F) (hc:w.heap[c]?=some (.chan cap #[] true s r false)) (hnew:New w₀ c) {a:Goroutine}
    (h:∀ (s₁ r₁ m:Nat) (gs:Array Goroutine) (w₁:World) (sl:Option (Nat × Nat)) (t:Trace) (q:Nat->Nat) (B:Nat),w₁.heap[c]?=some (.chan 0 #[] true s₁ r₁ false)->gs[0]?=some a->Leavers ⟨T,g⟩ t gs q->Pc c m j B t->c<B->Rel w₀ τ₀ w w₁->Win ⟨T,g⟩ Post gs w₁ sl t) :
    ∀ (w₁:World) (s₁ r₁:Nat),Rel w₀ τ₀ w w₁->Open c s₁ r₁ w₁->Shutw ⟨T,g⟩ Post c j a (w₁.setChan c 0 #[] true s₁ r₁ false):=by
  intro w₁ s₁ r₁ hR ho gs t q B n sl b' fn pos hA h0 hj hq
  obtain ⟨hL,hP⟩:=shut_leavers hA hj hq fn pos
  exact h s₁ r₁ t.size gs _ sl _ _ B (set_same ho) h0 hL hP hA.cB ⟨sim_set1 hR.sim hc ho,jw_set1 hR.jw hnew,hR.tape⟩
theorem node_fin (hE:Env T f g ok S S' F) (hEnd:EndP T f g ok S Fin Post w₀ τ₀) (hm:fr.mode ≠ .run) (ho:Ord ok S fr) (hT:Tm2 ⟨T,f⟩ Fin fr [] w):Node T f g ok S S' F Fin Post w₀ τ₀ fr [] w:=by
  have no:∀ c,Hd T f S S' F c fr []->False:=fun c h=>by
    obtain ⟨x,L,hL,k,hk,hh⟩:=h.held
    exact hh.ne hm rfl
  refine ⟨fun hi gs w₁ sl t q B h0 hL hP hR=>?_,fun c h=>(no c h).elim,fun c h=>(no c h).elim⟩
  obtain ⟨_,fn0,k2,_⟩:=(hE.fine fr.fn ho.fn).1
  obtain ⟨hm',hf⟩:=sent_end ho ⟨fn0,k2⟩ hm hT
  obtain ⟨fn,v,e1,e2,e3,e4⟩:=hEnd fr w w₁ ho hm' hf hR.sim hR.jw hR.tape
  exact end_win ho hm' e1 e2 e3 h0 hL hP.1 e4
theorem node_step (hE:Env T f g ok S S' F) (ho:Ord ok S fr) (ht:∀ t ∈ tops,Ord ok S t/\t.mode = .run) (hT:Tm2 ⟨T,f⟩ Fin fr tops w) (hsp:¬ Spec ⟨T,f⟩ S fr tops)
    (N:(τ:Nat->Question->Nat)->Ext w τ->Frame × List Frame × World × Array Event) (he:∀ τ hx,stepG ⟨T,f⟩ true (Gr fr (tops++[sent ⟨T,f⟩])) (Rt w τ) = .go (Gr (N τ hx).1 ((N τ hx).2.1++[sent ⟨T,f⟩])) (N τ hx).2.2.1 (N τ hx).2.2.2)
    (hs:∀ τ hx,Ord ok S (N τ hx).1->(∀ t ∈ (N τ hx).2.1,Ord ok S t/\t.mode = .run)->Tm2 ⟨T,f⟩ Fin (N τ hx).1 (N τ hx).2.1 (N τ hx).2.2.1->Node T f g ok S S' F Fin Post w₀ τ₀ (N τ hx).1 (N τ hx).2.1 (N τ hx).2.2.1):Node T f g ok S S' F Fin Post w₀ τ₀ fr tops w:=by
  have kid:∀ (d:Nat) (w₁:World) fr' tops' w' es,stepG ⟨T,f⟩ true (Gr fr (tops++[sent ⟨T,f⟩])) (Rt w (glue w w₁ d)) = .go (Gr fr' (tops'++[sent ⟨T,f⟩])) w' es->Ord ok S fr'->(∀ t ∈ tops',Ord ok S t/\t.mode = .run)->Tm2 ⟨T,f⟩ Fin fr' tops' w'->Node T f g ok S S' F Fin Post w₀ τ₀ fr' tops' w':=by
    intro d w₁ fr' tops' w' es e h1 h2 h3
    have q:=he (glue w w₁ d) (glue_ext w w₁ d)
    rw [e] at q
    injection q with q1 q2 q3
    injection q1 with q4 q5
    have q6:=List.append_cancel_right q5
    have:=hs (glue w w₁ d) (glue_ext w w₁ d)
    rw [<-q4,<-q6,<-q2] at this
    exact this h1 h2 h3
  have hsh:∀ (c:Nat),Hd T f S S' F c fr tops->New w₀ c->∀ (cap s r s₁ r₁ j m:Nat) (gs:Array Goroutine) (w₁:World) (sl:Option (Nat × Nat)) (t:Trace) (q:Nat->Nat) (B:Nat),w.heap[c]?=some (.chan cap #[] true s r false)->w₁.heap[c]?=some (.chan 0 #[] true s₁ r₁ false) ->
      gs[0]?=some (Gr fr tops)->Leavers ⟨T,g⟩ t gs q->Pc c m j B t->c<B->Rel w₀ τ₀ w w₁->Win ⟨T,g⟩ Post gs w₁ sl t:=by
    intro c hh hnew cap s r s₁ r₁ j m gs w₁ sl t q B hc hc₁ h0 hL hP hB hR
    refine idle_one (Φ:=fun B t=>Pc c m j B t/\c<B) (J:=fun w w₁=>Jw w₀ w w₁/\w.heap[c]?=some (.chan cap #[] true s r false)/\w₁.heap[c]?=some (.chan 0 #[] true s₁ r₁ false)) ⟨fun h hi hm=>⟨(keeps_pc c m j).mute h.1 hi hm,h.2⟩,fun h hB hq hl=>⟨(keeps_pc c m j).own h.1 hB hq hl,Nat.lt_of_lt_of_le h.2 hB⟩⟩ hE.fine hE.st hE.st₁
      (fun a a₁ b b₁ hj k k₁=>⟨hj.1.kc k k₁,(k _ _ _ _ _ _ _).2 hj.2.1,(k₁ _ _ _ _ _ _ _).2 hj.2.2⟩) hsp hh.gd.val ho ht hT h0 hL ⟨hP,hB⟩ hR.sim hR.tape ⟨hR.jw,hc,hc₁⟩ ?_
    intro d fr' tops' w' w₁' es gs' sl' t' q' B' e nr kc h1 h2 hT' h0' hsz hL' hP' hS' htp hj'
    obtain ⟨c1,c2⟩:=calm_next hE ho ht hsp hh.gd e hT'
    exact (kid d w₁ _ _ _ _ e h1 h2 hT').shut c (hh.near hE ho ht hsp nr e c1 c2) hnew cap s r s₁ r₁ j m gs' w₁' sl' t' q' B' hj'.2.1 hj'.2.2 h0' hL' hP'.1 hP'.2 ⟨hS',hj'.1,htp⟩
  refine ⟨fun hi gs w₁ sl t q B h0 hL hP hR=>?_,hsh,fun c hh hnew cap s r s₁ r₁ j vs w₁ hc ho₁ hR=>?_⟩
  · refine idle_one (Φ:=Pi) (J:=Jw w₀) keeps_pi hE.fine hE.st hE.st₁ (fun a a₁ b b₁ hj k k₁=>hj.kc k k₁) hsp hi.gd.val ho ht hT h0 hL hP hR.sim hR.tape hR.jw ?_
    intro d fr' tops' w' w₁' es gs' sl' t' q' B' e nr kc h1 h2 hT' h0' hsz hL' hP' hS' htp hj'
    obtain ⟨c1,c2⟩:=calm_next hE ho ht hsp hi.gd e hT'
    exact (kid d w₁ _ _ _ _ e h1 h2 hT').idle (hi.near (Fin:=Fin) hE ho ht hsp nr e c1) gs' w₁' sl' t' q' B' h0' hL' hP' ⟨hS',hj',htp⟩
  · refine place_kid (Wk:=Rel w₀ τ₀ w) rfl (fun v d h=>h.at d) (.inl ?_) ?_ hR ho₁
    · intro w₂ s₂ r₂ hR₂ ho₂
      obtain ⟨fr',tops',w',w₁',es,e,e',nr,kc,kc',h1,h2,s',t',hq,hT'⟩:=two_step hE hsp hh.gd ho ht hT hR₂.sim
      obtain ⟨c1,c2⟩:=calm_next hE ho ht hsp hh.gd e hT'
      have ho₃:Open c s₂ r₂ w₁':=(kc' _ _ _ _ _ _ _).2 ho₂
      exact ⟨_,_,_,e',hq,ho₃,(kid w₂.drawn w₂ _ _ _ _ e h1 h2 hT').run c (hh.near hE ho ht hsp nr e c1 c2) hnew cap s r s₂ r₂ j vs w₁' ((kc _ _ _ _ _ _ _).2 hc) ho₃ ⟨s',hR₂.jw.kc kc kc',t'.trans hR₂.tape⟩⟩
    · intro hv
      subst hv
      exact shutw_of hE hc hnew (fun s₁ r₁ m gs w₁ sl t q B hc₁ h0 hL hP hB hR=>hsh c hh hnew cap s r s₁ r₁ j m gs w₁ sl t q B hc hc₁ h0 hL hP hB hR)
end
end Go.Proofs.YteaieagkjepgiaaGreatDoor
/- . -/
namespace Go.Proofs.YteaieagkjepgiaaGreatDoor
set_option maxRecDepth 100000
open Go.Conc
open Go.ConcN (sumTo upd sumTo_upd upd_ne upd_same)
section
variable {ok:Op->Bool} {F:FuncId->List Lp} {S S':List FuncId} {T:Tables} {f g:Array Func} {fr fr':Frame} {tops tops':List Frame} {w w' w₀ w₁:World} {V:Lp->Frame->List Value->Prop} {Fin:Frame->World->Prop} {Post:Value->World->Prop} {τ₀:Nat->Question->Nat}
theorem same_chan (hE:Env T f g ok S S' F) {x x':FuncId} {L L':Lp} (hL:L ∈ F x) (hL':L' ∈ F x') {k k':List Item} {c c':Nat} (e:fr.todo = .inRegion L.ops [0,1]::.code (.seq L.test L.body)::L.tl k) (e':fr.todo = .inRegion L'.ops [0,1]::.code (.seq L'.test L'.body)::L'.tl k')
    (hs:fr.tmps[L.slot]?=some (.chan (some c))) (hs':fr.tmps[L'.slot]?=some (.chan (some c'))):c=c':=by
  have h1:L.ops=L'.ops:=by
    rw [e] at e'
    simp only [List.cons.injEq,Item.inRegion.injEq] at e'
    exact e'.1.1
  obtain ⟨o,ct,el,d,z,o1,o2,_⟩:=hE.rc x L hL
  obtain ⟨o',ct',el',d',z',o1',o2',_⟩:=hE.rc x' L' hL'
  rw [h1,o1'] at o1
  cases o1
  rw [o2'] at o2
  have hsl:L'.slot=L.slot:=by
    injection o2 with _ q _
    injection q
  rw [hsl,hs] at hs'
  cases hs'
  rfl
theorem rc_inj {P:Program} {c:Nat} {z z':Value} (h:AtRc P fr c z) (h':AtRc P fr c z') (w:World):z=z':=by
  have:=(h true [] w).symm.trans (h' true [] w)
  injection this with _ q
  have q1:rcase c z=rcase c z':=by simpa using q
  injection q1
theorem not_both {L L':Lp} {k k':List Item} (e:fr.todo = .inRegion L.ops [0,1]::.code (.seq L.test L.body)::L.tl k) (e':fr.todo = .inRegion L'.o5 [L'.o5.size - 1]::.code L'.loop::k'):False:=by
  rw [e] at e'
  simp at e'
theorem node_jump (hE:Env T f g ok S S' F) (hP:CallP T f g ok S F V Post) (ho:Ord ok S fr) (ht:∀ t ∈ tops,Ord ok S t/\t.mode = .run) (hT:Tm2 ⟨T,f⟩ Fin fr tops w) (hj:Jump T f S F V fr tops w fr' tops' w')
    (hn:Ord ok S fr'->(∀ t ∈ tops',Ord ok S t/\t.mode = .run)->Tm2 ⟨T,f⟩ Fin fr' tops' w'->Node T f g ok S S' F Fin Post w₀ τ₀ fr' tops' w'):Node T f g ok S S' F Fin Post w₀ τ₀ fr tops w:=by
  cases hj with
  | take x L hL k c₀ cap₀ s₀ r₀ v vs₀ hm hsp e hs hc₀ hl =>
    have hch:=hn (ho.finish _) ht (tm_leap hl hT)
    refine ⟨fun hi=>?_,fun c hh hnew cap s r s₁ r₁ j m gs w₁ sl t q B hc=>?_,fun c hh hnew cap s r s₁ r₁ j vs w₁ hc ho₁ hR=>?_⟩
    · obtain ⟨L',hL',k',hk',e'⟩:=hi.top.spec (hE.lq _) hm hsp (fun L hL j o hj ho=>okDy_of (hE.o5 _ L hL j o hj ho))
      exact (not_both e e').elim
    · obtain ⟨x',L',hL',k',z,_,e',hs',_⟩:=hh.at hE hsp ho
      have:=same_chan hE hL hL' e e' hs hs'
      subst this
      rw [hc₀] at hc
      simp at hc
    · obtain ⟨x',L',hL',k',z,_,e',hs',a1,a2,hid,hhd⟩:=hh.at hE hsp ho
      have:=same_chan hE hL hL' e e' hs hs'
      subst this
      have hvs:vs=v::vs₀:=by
        rw [hc₀] at hc
        simp only [Option.some.injEq,Obj.chan.injEq] at hc
        have:=hc.2.1
        simpa using this.symm
      refine place_kid (Wk:=Rel w₀ τ₀ w) rfl (fun v d h=>h.at d) (.inr ⟨z,fun v=>a2 true tops v,fun v' vs' hv w₂ s₂ r₂ hR₂ ho₂=>?_,fun hv=>by rw [hvs] at hv;cases hv⟩) (fun hv=>by rw [hvs] at hv;cases hv) hR ho₁
      rw [hvs] at hv
      cases hv
      exact hch.run c₀ (hhd v) hnew cap₀ s₀ (r₀+1) (s₂+1) (r₂+1) j vs₀ _ (set_same hc₀) (set_same ho₂) ⟨sim_set hR₂.sim hc₀ ho₂,jw_set hR₂.jw hnew,hR₂.tape⟩
  | shut x L hL k c₀ cap₀ s₀ r₀ z₀ hm hsp e hs hc₀ hz hl =>
    have hch:=hn (ho.finish _) ht (tm_leap hl hT)
    have cl:∀ (c:Nat),Hd T f S S' F c fr tops->∀ (j s₁ r₁ m:Nat) (a:Goroutine) (gs:Array Goroutine) (w₁:World) (sl:Option (Nat × Nat)) (t:Trace) (q:Nat->Nat) (B:Nat),a.status = .running->(∀ v,stepG ⟨T,g⟩ true a v=stepG ⟨T,g⟩ true (Gr fr tops) v)->w₁.heap[c]?=some (.chan 0 #[] true s₁ r₁ false)->gs[0]?=some a->Leavers ⟨T,g⟩ t gs q->Pc c m j B t->c<B->Rel w₀ τ₀ w w₁->Win ⟨T,g⟩ Post gs w₁ sl t:=by
      intro c hh j s₁ r₁ m a gs w₁ sl t q B ha hsa hc₁ h0 hL' hP' hB hR
      obtain ⟨x',L',hL'',k',z,_,e',hs',a1,a2,hid,hhd⟩:=hh.at hE hsp ho
      have:=same_chan hE hL hL'' e e' hs hs'
      subst this
      have hzz:=rc_inj hz a1 w
      subst hzz
      exact closing_recv ha (fun v=>(hsa v).trans (a2 true tops v)) h0 hL' hP' hB hc₁ (fun d gs' sl' t' q' B' h0' hL3 hP3=>hch.idle hid gs' _ sl' t' q' B' h0' hL3 hP3 (hR.at d))
    refine ⟨fun hi=>?_,fun c hh hnew cap s r s₁ r₁ j m gs w₁ sl t q B hc hc₁ h0 hL' hP' hB hR=>cl c hh j s₁ r₁ m _ gs w₁ sl t q B rfl (fun _=>rfl) hc₁ h0 hL' hP' hB hR,fun c hh hnew cap s r s₁ r₁ j vs w₁ hc ho₁ hR=>?_⟩
    · obtain ⟨L',hL',k',hk',e'⟩:=hi.top.spec (hE.lq _) hm hsp (fun L hL j o hj ho=>okDy_of (hE.o5 _ L hL j o hj ho))
      exact (not_both e e').elim
    · obtain ⟨x',L',hL',k',z,_,e',hs',a1,a2,hid,hhd⟩:=hh.at hE hsp ho
      have:=same_chan hE hL hL' e e' hs hs'
      subst this
      have hvs:vs=[]:=by
        rw [hc₀] at hc
        simp only [Option.some.injEq,Obj.chan.injEq] at hc
        have:=hc.2.1
        simpa using this.symm
      subst hvs
      refine place_kid (Wk:=Rel w₀ τ₀ w) rfl (fun v d h=>h.at d) (.inr ⟨z,fun v=>a2 true tops v,fun v' vs' hv=>(by cases hv),fun _=>?_⟩) (fun _=>?_) hR ho₁
      · exact shutw_of hE hc hnew (fun s₁ r₁ m gs w₁ sl t q B hc₁ h0 hL' hP' hB hR=>cl c₀ hh j s₁ r₁ m { parked (Gr fr tops) #[rcase c₀ z] (.recv true) with status:=.running } gs w₁ sl t q B rfl (fun _=>rfl) hc₁ h0 hL' hP' hB hR)
      · exact shutw_of hE hc hnew (fun s₁ r₁ m gs w₁ sl t q B hc₁ h0 hL' hP' hB hR=>cl c₀ hh j s₁ r₁ m _ gs w₁ sl t q B rfl (fun _=>rfl) hc₁ h0 hL' hP' hB hR)
  | made L hL k vs cap n hv hm hsp e hk hl =>
    have hch:=hn (ho.finish _) ht (tm_leap hl hT)
    have no:∀ c,Hd T f S S' F c fr tops->False:=fun c hh=>by
      obtain ⟨x',L',hL',k',z,_,e',_⟩:=hh.at hE hsp ho
      exact not_both e' e
    refine ⟨fun hi gs w₁ sl t q B h0 hL' hP' hR=>?_,fun c hh=>(no c hh).elim,fun c hh=>(no c hh).elim⟩
    have hsz:w₁.heap.size=w.heap.size:=hR.sim.size
    have hnew:New w₀ w.heap.size:=fun c bf cl s r tm q=>by
      have:=(Array.getElem?_eq_some_iff.1 (hR.jw _ _ _ _ _ _ _ q).1).1
      omega
    have e1:(w.alloc (.chan cap vs.toArray true n 0 false)).heap[w.heap.size]?=some (.chan cap vs.toArray true n 0 false):=by
      show (w.heap.push _)[w.heap.size]?=_
      simp
    have e2:∀ d,((w₁.at d).alloc (.chan 0 #[] false 0 0 false)).heap[w.heap.size]?=some (.chan 0 #[] false 0 0 false):=fun d=>by
      show (w₁.heap.push _)[w.heap.size]?=_
      rw [<-hsz]
      simp
    have old:∀ d b,b ≠ w.heap.size->(w.alloc (.chan cap vs.toArray true n 0 false)).heap[b]?=w.heap[b]?/\((w₁.at d).alloc (.chan 0 #[] false 0 0 false)).heap[b]?=w₁.heap[b]?:=fun d b hb=>by
      constructor
      · show (w.heap.push _)[b]?=_
        rw [Array.getElem?_push,if_neg (by omega)]
      · show (w₁.heap.push _)[b]?=_
        rw [Array.getElem?_push,if_neg (by omega)]
    have hrel:∀ d,Rel w₀ τ₀ (w.alloc (.chan cap vs.toArray true n 0 false)) ((w₁.at d).alloc (.chan 0 #[] false 0 0 false)):=by
      intro d
      refine ⟨⟨hR.sim.os,hR.sim.output,?_,fun b=>?_⟩,fun b c bf cl s r tm q=>?_,hR.tape⟩
      · show (w₁.heap.push _).size=(w.heap.push _).size
        simp [hsz]
      · by_cases hb:b=w.heap.size
        · subst hb
          exact .inr ⟨⟨0,rfl,Nat.zero_le _⟩,⟨_,_,_,_,_,_,e1⟩,⟨_,_,_,_,_,_,e2 d⟩⟩
        · rw [(old d b hb).1,(old d b hb).2]
          exact hR.sim.block b
      · have hb:b ≠ w.heap.size:=fun e=>hnew c bf cl s r tm (e ▸ q)
        rw [(old d b hb).1,(old d b hb).2]
        exact hR.jw _ _ _ _ _ _ _ q
    refine hP fr tops L k vs gs w₁ sl t q B hL hv ho hm hi.sz e h0 hL' hP' (fun j d=>?_) (fun hv' j m d gs sl t q B h0' hL3 hP3 hB3=>?_)
    · rw [hsz]
      exact hch.run w.heap.size (made_hd hE ho hi hL hk hm e _) hnew cap n 0 0 0 j vs _ e1 (e2 d) (hrel d)
    · rw [hsz] at h0' hP3 hB3 ⊢
      have e3:=e1.trans (show _=some (Obj.chan cap #[] true n 0 false) by rw [hv'])
      exact hch.shut w.heap.size (made_hd hE ho hi hL hk hm e _) hnew cap n 0 0 0 j m gs _ sl t q B e3 (set_same (e2 d)) h0' hL3 hP3 hB3 ⟨sim_set1 (hrel d).sim e1 (e2 d),jw_set1 (hrel d).jw hnew,(hrel d).tape⟩
theorem nodes (hE:Env T f g ok S S' F) (hP:CallP T f g ok S F V Post) (hEnd:EndP T f g ok S Fin Post w₀ τ₀) (h:Tree ⟨T,f⟩ S (Jump T f S F V) fr tops w):Ord ok S fr->(∀ t ∈ tops,Ord ok S t/\t.mode = .run)->Tm2 ⟨T,f⟩ Fin fr tops w->Node T f g ok S S' F Fin Post w₀ τ₀ fr tops w:=by
  induction h with
  | fin hm=>exact fun ho _ hT=>node_fin hE hEnd hm ho hT
  | step N he hs hsp ih=>exact fun ho ht hT=>node_step hE ho ht hT hsp N he ih
  | jump hj hs ih=>exact fun ho ht hT=>node_jump hE hP ho ht hT hj ih
end
end Go.Proofs.YteaieagkjepgiaaGreatDoor
/- . -/
namespace Go.Proofs.YteaieagkjepgiaaGreatDoor
set_option maxRecDepth 100000
open Go.Conc
inductive Plain:Value->Prop
  | int (k:IntKind) (n:Int):Plain (.int k n)
  | bool (b:Bool):Plain (.bool b)
  | chan (r:Option Nat):Plain (.chan r)
  | agg (cs:Array Value):Plain (.agg cs)
  | tuple (vs:Array Value) (h:∀ x ∈ vs,Plain x):Plain (.tuple vs)
theorem plain_undef:Plain undef:=.tuple _ (fun x hx=>by simp at hx)
def stopsF:Halt->Prop
  | .panic _ | .stuck _=>True
  | .unsupported u=>∀ b,u ≠ .initOrder b
  | _=>False
def FreeP {α:Type} (P:Program) (Q:α->Prop):Sem α->Prop
  | .pure a=>Q a
  | .program k=>FreeP P Q (k P)
  | .halt h=>stopsF h
  | _=>False
theorem free_run {α:Type} {P:Program} {Q:α->Prop} (s:Sem α) (h:FreeP P Q s):(∃ a,Q a/\∀ w es,s.runT P w es=(.ok a w,es))\/∃ x,stopsF x/\∀ w es,s.runT P w es=(.halt x w,es):=by
  induction s with
  | pure a=>exact .inl ⟨a,h,fun _ _=>rfl⟩
  | program k ih =>
    rcases ih P h with ⟨a,q,e⟩ | ⟨x,q,e⟩
    · exact .inl ⟨a,q,fun w es=>by simp only [Sem.runT];exact e w es⟩
    · exact .inr ⟨x,q,fun w es=>by simp only [Sem.runT];exact e w es⟩
  | halt x=>exact .inr ⟨x,h,fun _ _=>rfl⟩
  | _=>exact h.elim
section
variable {P:Program} {α β:Type} {Q:α->Prop} {R:β->Prop}
theorem fq {s:Sem α} {k:α->Sem β} (h:FreeP P Q s) (hk:∀ a,Q a->FreeP P R (k a)):FreeP P R (s >>= k):=by
  show FreeP P R (s.bind k)
  induction s with
  | pure a=>exact hk a h
  | program j ih=>exact ih P h
  | halt x=>exact h
  | _=>exact h.elim
theorem fm {s:Sem α} {k:α->β} (h:FreeP P Q s) (hk:∀ a,Q a->R (k a)):FreeP P R (k <$> s):=by
  show FreeP P R (s.bind fun a=>.pure (k a))
  exact fq h (fun a q=>hk a q)
theorem fstuck (s:String):FreeP P Q (stuck s:Sem α):=trivial
theorem fprog {k:Program->Sem α} (h:FreeP P Q (k P)):FreeP P Q (program >>= k):=h
theorem ftypeInfo (t:TypeId):FreeP P (fun _=>True) (typeInfo t):=by
  unfold typeInfo
  refine fprog ?_
  split
  · exact trivial
  · exact fstuck _
theorem funderlying (t:TypeId):FreeP P (fun d=>P.underlying t=some d) (underlying t):=by
  unfold underlying
  refine fprog ?_
  split
  · rename_i e;exact e
  · exact fstuck _
theorem fzero (t:TypeId):FreeP P (fun _=>True) (zeroValue t):=by
  unfold zeroValue
  refine fq (ftypeInfo t) (fun a _=>?_)
  split
  · exact trivial
  · exact fun b e=>by cases e
theorem fsize (t:TypeId):FreeP P (fun _=>True) (sizeOf t):=by
  unfold sizeOf
  exact fm (ftypeInfo t) (fun _ _=>trivial)
end
end Go.Proofs.YteaieagkjepgiaaGreatDoor
