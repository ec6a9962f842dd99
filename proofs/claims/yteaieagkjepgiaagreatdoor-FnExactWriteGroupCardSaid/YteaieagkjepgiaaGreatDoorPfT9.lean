/- Texts of ours, laid one behind the other: TGrwB, TGrwC, TGrwD, TLawPl, TDraw, TDrawB. -/
import Derived.Test.YteaieagkjepgiaaGreatDoorPfT8
import Derived.BigQuiet
import Derived.OrdersHeld
import Derived.PlainAid
import Derived.Deep.QuietTactic
import Derived.Deep.RegionHeld3
import Derived.Deep.DrawnRows
import Derived.OwnWalk
set_option linter.unusedVariables false
set_option linter.unusedSimpArgs false
/- . -/
namespace Go.Proofs.YteaieagkjepgiaaGreatDoorT
set_option maxRecDepth 100000
open Go.RowKit
def Later (w w':World):Prop:=Below w.heap.size w w'
theorem Later.refl (w:World):Later w w:=Below.refl _ _
theorem Later.trans {a b c:World} (h:Later a b) (g:Later b c):Later a c:=Below.trans h (Below.mono g (Below.size h))
section
variable {P:Program} {ops:Array Oper} {Q:Exit->Act->World->Prop} {md:Region.Mode}
def wpL (P:Program) (md:Region.Mode) (ops:Array Oper) (Q:Exit->Act->World->Prop):Nat->Array Bool->Act->World->Prop
 | 0,l,a,w=>Region.ready md ops l=[]/\∀ x,Later w x->Q .normal a x
 | n+1,l,a,w=>∀ x,Later w x->(Region.ready md ops l=[]->Q .normal a x) /\
   ∀ i ∈ Region.ready md ops l,wpOp P ops Q i (fun a' y=>Later x y/\wpL P md ops Q n (l.setIfInBounds i true) a' y) a x
theorem wpL_later:∀ (n:Nat) (l:Array Bool) (a:Act) (w y:World),Later w y->wpL P md ops Q n l a w->wpL P md ops Q n l a y
 | 0,_,_,_,_,hy,h=>⟨h.1,fun x hx=>h.2 x (hy.trans hx)⟩
 | _+1,_,_,_,_,hy,h=>fun x hx=>h x (hy.trans hx)
theorem wpAny_of_L:∀ (n:Nat) (l:Array Bool) (a:Act) (w:World),wpL P md ops Q n l a w->wpAny P md ops Q n l a w
 | 0,_,_,w,h=>⟨h.1,h.2 w (Later.refl w)⟩
 | n+1,_,_,w,h=>⟨(h w (Later.refl w)).1,fun i hi=>wpOp_mono (fun a' y hh=>wpAny_of_L n _ a' y hh.2) ((h w (Later.refl w)).2 i hi)⟩
def YL (P:Program) (ops:Array Oper) (o:Oper) (v:Value) (a:Act) (w:World):Prop:=
 (Region.wanted o (yielded ops a.tmps)=true/\∀ x,Later w x->o.quietAt P a (Later x) x v)\/(Region.wanted o (yielded ops a.tmps)=false/\v=undef)
theorem YL.later {o:Oper} {v:Value} {a:Act} {w y:World} (h:YL P ops o v a w) (hy:Later w y):YL P ops o v a y:=
 h.imp (fun q=>⟨q.1,fun x hx=>q.2 x (hy.trans hx)⟩) id
theorem YL.same {o:Oper} {v:Value} {a b:Act} {w:World} (h:YL P ops o v a w) (he:execOp b.eval o=execOp a.eval o) (hw:Region.wanted o (yielded ops b.tmps)=Region.wanted o (yielded ops a.tmps)):YL P ops o v b w:=by
 unfold YL Oper.quietAt at *
 rw [he,hw]
 exact h
theorem YL.op {i:Nat} {o:Oper} {v:Value} {a:Act} {w x:World} {K:Act->World->Prop} (hi:ops[i]?=some o) (h:YL P ops o v a w) (hx:Later w x) (hk:∀ y,Later x y->K (a.put o.dst v) y):wpOp P ops Q i K a x:=by
 unfold wpOp
 rw [hi]
 dsimp only
 rcases h with ⟨hw,hq⟩ | ⟨hw,hv⟩
 ·rw [if_pos hw]
  refine Or.inl ?_
  have q:=hq x hx
  unfold Oper.quietAt at q
  unfold Oper.wp
  revert q
  cases (execOp a.eval o).run P x with
  | halt _ _=>exact False.elim
  | ok r y =>
   cases r with
   | value u=>rintro ⟨rfl,rfl⟩;exact hk _ (Later.refl _)
   | skip=>rintro ⟨rfl,rfl⟩;exact hk _ (Later.refl _)
   | enter f args=>rintro ⟨rfl,hc⟩;exact hc.mono (by rintro _ z ⟨rfl,hz⟩;exact hk _ hz)
   | _=>exact False.elim
 ·rw [if_neg (by rw [hw];exact Bool.false_ne_true),<-hv]
  exact hk _ (Later.refl _)
def Fr (d:Option Tmp) (a b:Act):Prop:=∃ u,b=a.put d u\/∃ f,b = { a with defers:=f::a.defers }.put d u
theorem op_frame {j:Nat} {oj:Oper} {K:Act->World->Prop} {a:Act} {x:World} (hj:ops[j]?=some oj) (h:wpOp P ops Q j K a x):wpOp P ops Q j (fun b y=>Fr oj.dst a b/\K b y) a x:=by
 unfold wpOp at h ⊢
 rw [hj] at h ⊢
 dsimp only at h ⊢
 split
 ·rename_i hw
  rw [if_pos hw] at h
  refine h.imp_left fun q=>?_
  unfold Oper.wp at q ⊢
  revert q
  cases (execOp a.eval oj).run P x with
  | halt r y=>cases r <;> exact id
  | ok r y =>
   cases r with
   | value u=>exact fun q=>⟨⟨u,.inl rfl⟩,q⟩
   | skip=>exact fun q=>⟨⟨undef,.inl rfl⟩,q⟩
   | defer f=>exact fun q=>⟨⟨undef,.inr ⟨f,rfl⟩⟩,q⟩
   | enter f args=>exact fun q=>Calls.mono q fun e z hz=>by cases e <;> first | exact ⟨⟨_,.inl rfl⟩,hz⟩ | exact hz
   | row r args=>exact fun q=>Rows.mono q fun u z hz=>⟨⟨u,.inl rfl⟩,hz⟩
   | _=>exact id
 ·rename_i hw
  rw [if_neg hw] at h
  exact ⟨⟨undef,.inl rfl⟩,h⟩
theorem op_beside {j:Nat} {oi oj:Oper} {v:Value} {w:World} (hj:ops[j]?=some oj) (hap:oi.apart ops oj=true) (hsi:∀ cs b,oi.op ≠ .select cs b) (hsj:∀ cs b,oj.op ≠ .select cs b)
  (hQ:∀ c a w,Q (.panic c) (a.put oi.dst v) w->Q (.panic c) a w) {K:Act->World->Prop} {a:Act} {x:World} (hy:YL P ops oi v a w) (h:wpOp P ops Q j K (a.put oi.dst v) x) :
  wpOp P ops Q j (fun a' y=>YL P ops oi v a' w/\K (a'.put oi.dst v) y) a x:=by
 have h3:=(Oper.apart_spec hap).2.2
 refine wpOp_mono ?_ (op_frame hj (wpOp_putIf (S:=fun _=>False) hj hap hsi hsj hQ (hy.imp (fun q=>⟨q.1,fun _ hf=>hf.elim⟩) id) h))
 rintro b y ⟨⟨u,rfl | ⟨f,rfl⟩⟩,-,hk⟩
 ·exact ⟨hy.same (execOp_put oi hsi a oj.dst u h3) (wanted_put oi a oj.dst u h3),hk⟩
 ·have q:YL P ops oi v { a with defers:=f::a.defers } w:=hy.same rfl rfl
  exact ⟨q.same (execOp_put oi hsi _ oj.dst u h3) (wanted_put oi _ oj.dst u h3),hk⟩
theorem ready_free {l:Array Bool} {i j:Nat} {oj:Oper} (hi:i ∈ Region.ready md ops l) (hj:j ∈ Region.ready md ops l) (ho:ops[j]?=some oj):∀ e ∈ oj.after,Region.binds md e=true->e.on ≠ i:=by
 obtain ⟨-,o',ho',hall⟩:=mem_ready.1 hj
 obtain rfl:oj=o':=Option.some.inj (ho.symm.trans ho')
 rintro e he hb rfl
 have q:=hall e he hb
 have z:=(mem_ready.1 hi).1
 grind
theorem wpL_first {i:Nat} {oi:Oper} {v:Value} (hi:ops[i]?=some oi) (hsel:∀ (j:Nat) (o:Oper) cs b,ops[j]?=some o->o.op ≠ .select cs b) (hQ:∀ c a w,Q (.panic c) (a.put oi.dst v) w->Q (.panic c) a w) :
  ∀ (n:Nat) (l:Array Bool) (a:Act) (w:World),(∀ j oj,ops[j]?=some oj->j ≠ i->l.getD j true=false->(∀ e ∈ oj.after,Region.binds md e=true->e.on ≠ i)->oi.apart ops oj=true) ->
   i ∈ Region.ready md ops l->YL P ops oi v a w->wpL P md ops Q n (l.setIfInBounds i true) (a.put oi.dst v) w->wpL P md ops Q (n+1) l a w:=by
 intro n
 induction n with
 | zero =>
  intro l a w _ hr hy H x hx
  refine ⟨fun h=>(by rw [h] at hr;cases hr),fun j hj=>?_⟩
  by_cases hji:j=i
  ·subst hji
   exact hy.op hi hx fun y hxy=>⟨hxy,wpL_later 0 _ _ _ _ (hx.trans hxy) H⟩
  ·have q:=ready_mono hj hji
   rw [H.1] at q
   cases q
 | succ n ih =>
  intro l a w hfree hr hy H x hx
  refine ⟨fun h=>(by rw [h] at hr;cases hr),fun j hj=>?_⟩
  by_cases hji:j=i
  ·subst hji
   exact hy.op hi hx fun y hxy=>⟨hxy,wpL_later (n+1) _ _ _ _ (hx.trans hxy) H⟩
  ·obtain ⟨hun,oj,hoj,-⟩:=mem_ready.1 hj
   have q:=op_beside hoj (hfree j oj hoj hji hun (ready_free hr hj hoj)) (fun cs b=>hsel i oi cs b hi) (fun cs b=>hsel j oj cs b hoj) hQ hy ((H x hx).2 j (ready_mono hj hji))
   refine wpOp_mono (fun b y hb=>⟨hb.2.1,ih (l.setIfInBounds j true) b y (fun k ok hk hki hku hno=>hfree k ok hk hki ?_ hno) (ready_mono hr (Ne.symm hji)) (hb.1.later (hx.trans hb.2.1)) ?_⟩) q
   ·by_cases hjk:j=k
    ·subst hjk;exact hun
    ·rw [getD_set_ne true hjk] at hku;exact hku
   ·rw [Array.setIfInBounds_comm _ _ hji]
    exact hb.2.2
theorem at_drop {L r:List Oper} {i:Nat} {o:Oper} (h:L.drop i=o::r):L.toArray[i]?=some o:=by
 have q:(L.drop i)[0]?=some o:=by rw [h];rfl
 simpa using q
theorem wpL_val {L r:List Oper} {i:Nat} {oi:Oper} {v:Value} {n:Nat} {l:Array Bool} {a:Act} {w:World} (hi:L.drop i=oi::r) (hs:Region.noSelect L.toArray=true) (hf:Region.free md L.toArray l i=true) (hr:(Region.ready md L.toArray l).contains i=true)
  (hQ:∀ c a w,Q (.panic c) (a.put oi.dst v) w->Q (.panic c) a w) (hw:Region.wanted oi (yielded L.toArray a.tmps)=true) (hy:∀ x,Later w x->(execOp a.eval oi).run P x = .ok (.value v) x)
  (h:wpL P md L.toArray Q n (l.setIfInBounds i true) (a.put oi.dst v) w):wpL P md L.toArray Q (n+1) l a w:=
 wpL_first (at_drop hi) (Region.noSelect_spec hs) hQ n l a w (Region.free_spec (at_drop hi) hf) (by simpa using hr) (Or.inl ⟨hw,fun x hx=>by unfold Oper.quietAt;rw [hy x hx];exact ⟨rfl,rfl⟩⟩) h
theorem wpL_call {L r:List Oper} {i:Nat} {oi:Oper} {v:Value} {f:FuncId} {args:Array Value} {n:Nat} {l:Array Bool} {a:Act} {w:World} (hi:L.drop i=oi::r) (hs:Region.noSelect L.toArray=true) (hf:Region.free md L.toArray l i=true) (hr:(Region.ready md L.toArray l).contains i=true)
  (hQ:∀ c a w,Q (.panic c) (a.put oi.dst v) w->Q (.panic c) a w) (hw:Region.wanted oi (yielded L.toArray a.tmps)=true) (hy:∀ x,Later w x->(execOp a.eval oi).run P x = .ok (.enter f args) x)
  (hc:∀ x,Later w x->Calls P f args x fun e y=>e = .returned v/\Below x.heap.size x y)
  (h:wpL P md L.toArray Q n (l.setIfInBounds i true) (a.put oi.dst v) w):wpL P md L.toArray Q (n+1) l a w:=
 wpL_first (at_drop hi) (Region.noSelect_spec hs) hQ n l a w (Region.free_spec (at_drop hi) hf) (by simpa using hr) (Or.inl ⟨hw,fun x hx=>by unfold Oper.quietAt;rw [hy x hx];exact ⟨rfl,hc x hx⟩⟩) h
theorem wpL_one {L r:List Oper} {i:Nat} {oi:Oper} {n:Nat} {l:Array Bool} {a:Act} {w:World} (hr:Region.ready md L.toArray l=[i]) (hi:L.drop i=oi::r) (hw:Region.wanted oi (yielded L.toArray a.tmps)=true)
  (h:∀ x,Later w x->∃ (v:Value) (y:World),(execOp a.eval oi).run P x = .ok (.value v) y/\Later x y/\wpL P md L.toArray Q n (l.setIfInBounds i true) (a.put oi.dst v) y):wpL P md L.toArray Q (n+1) l a w:=by
 intro x hx
 rw [hr]
 refine ⟨fun h=>(by cases h),fun j hj=>?_⟩
 rw [List.mem_singleton] at hj
 subst hj
 obtain ⟨v,y,h1,h2,h3⟩:=h x hx
 unfold wpOp
 rw [at_drop hi]
 dsimp only
 rw [if_pos hw]
 refine Or.inl ?_
 unfold Oper.wp
 rw [h1]
 exact ⟨h2,h3⟩
theorem wpL_done {l:Array Bool} {a:Act} {w:World} (hr:Region.ready md ops l=[]) (h:∀ x,Later w x->Q .normal a x):∀ n,wpL P md ops Q n l a w
 | 0=>⟨hr,h⟩
 | _+1=>fun x hx=>⟨fun _=>h x hx,by rw [hr];simp⟩
theorem wp_region_later {id:Nat} {a:Act} {w:World} (hm:P.follows .mixedOrders=true) (h:wpL P .any ops Q ops.size (Array.replicate ops.size false) a w.drew):(Code.region id ops true).wp P Q a w:=
 wp_region_any hm (wpAny_of_L _ _ _ _ h)
end
section
variable {P:Program} {Q:Exit->Act->World->Prop} {md:Region.Mode}
end
section
variable {P:Program} {Q:Exit->Act->World->Prop} {md:Region.Mode}
end
end Go.Proofs.YteaieagkjepgiaaGreatDoorT
/- . -/
namespace Go.Proofs.YteaieagkjepgiaaGreatDoorT
set_option maxRecDepth 100000
open Go.RowKit
section
variable {P:Program} {ops:Array Oper} {Q:Exit->Act->World->Prop} {md:Region.Mode} {m:Nat}
def tailed (m:Nat) (ops:Array Oper) (l:Array Bool):Bool:=(List.range m).all fun j=>l.getD j true||decide (ops.size<=j)
def wpK (P:Program) (md:Region.Mode) (ops:Array Oper) (Q:Exit->Act->World->Prop) (m:Nat):Nat->Array Bool->Act->World->Prop
 | 0,l,a,w=>∀ x,Later w x->wpAny P md ops Q 0 l a x
 | n+1,l,a,w=>(tailed m ops l=true/\∀ x,Later w x->wpAny P md ops Q (n+1) l a x)\/(∀ x,Later w x->(Region.ready md ops l=[]->Q .normal a x) /\
   ∀ i ∈ Region.ready md ops l,wpOp P ops Q i (fun a' y=>Later x y/\wpK P md ops Q m n (l.setIfInBounds i true) a' y) a x)
def clo (md:Region.Mode) (ops:Array Oper) (l:Array Bool) (i:Nat):List Nat:=(List.range ops.size).foldl (fun acc f=>if !(l.getD f true)&&(((ops[f]?).map fun o=>o.after.any fun e=>Region.binds md e&&((e.on==i)||acc.contains e.on))==some true) then f::acc else acc) []
def waits (md:Region.Mode) (m:Nat) (ops:Array Oper) (l:Array Bool) (i:Nat) (C:List Nat):Bool:=
 (C.all fun c=>!(l.getD c true)&&(((ops[c]?).map fun o=>o.after.any fun e=>Region.binds md e&&((e.on==i)||C.contains e.on))==some true))&&((List.range ops.size).all fun f=>decide (f<m)||l.getD f true||C.contains f)
theorem getD_clash {l:Array Bool} {k:Nat} (h1:l.getD k true=false) (h2:l.getD k false=true):False:=by
 unfold Array.getD at h1 h2
 split at h1
 ·rename_i h
  rw [dif_pos h] at h2
  rw [h1] at h2
  cases h2
 ·cases h1
theorem wpK_done {l:Array Bool} {a:Act} {w:World} (hr:Region.ready md ops l=[]) (h:∀ x,Later w x->Q .normal a x):∀ n,wpK P md ops Q m n l a w
 | 0=>fun x hx=>⟨hr,h x hx⟩
 | _+1=>.inr fun x hx=>⟨fun _=>h x hx,by rw [hr];simp⟩
end
section
variable {P:Program} {Q:Exit->Act->World->Prop} {md:Region.Mode} {m:Nat}
theorem wpA_first {ops:Array Oper} {i:Nat} {oi:Oper} {v:Value} (hi:ops[i]?=some oi) (hsel:∀ (j:Nat) (o:Oper) cs b,ops[j]?=some o->o.op ≠ .select cs b) (hQ:∀ c a w,Q (.panic c) (a.put oi.dst v) w->Q (.panic c) a w) :
  ∀ (n:Nat) (l:Array Bool) (a:Act) (w:World),(∀ j oj,ops[j]?=some oj->j ≠ i->l.getD j true=false->(∀ e ∈ oj.after,Region.binds md e=true->e.on ≠ i)->oi.apart ops oj=true) ->
   i ∈ Region.ready md ops l->Region.wanted oi (yielded ops a.tmps)=true->(∀ x,(execOp a.eval oi).run P x = .ok (.value v) x)->wpAny P md ops Q n (l.setIfInBounds i true) (a.put oi.dst v) w->wpAny P md ops Q (n+1) l a w:=by
 intro n
 induction n with
 | zero =>
  intro l a w _ hr hw hy H
  refine ⟨fun h=>(by rw [h] at hr;cases hr),fun j hj=>?_⟩
  by_cases hji:j=i
  ·subst hji
   unfold wpOp
   rw [hi]
   dsimp only
   rw [if_pos hw]
   refine Or.inl ?_
   unfold Oper.wp
   rw [hy w]
   exact H
  ·have q:=ready_mono hj hji
   rw [H.1] at q
   cases q
 | succ n ih =>
  intro l a w hfree hr hw hy H
  refine ⟨fun h=>(by rw [h] at hr;cases hr),fun j hj=>?_⟩
  by_cases hji:j=i
  ·subst hji
   unfold wpOp
   rw [hi]
   dsimp only
   rw [if_pos hw]
   refine Or.inl ?_
   unfold Oper.wp
   rw [hy w]
   exact H
  ·obtain ⟨hun,oj,hoj,-⟩:=mem_ready.1 hj
   have hap:=hfree j oj hoj hji hun (ready_free hr hj hoj)
   have h3:=(Oper.apart_spec hap).2.2
   have q:=op_frame hoj (wpOp_putIf (S:=fun _=>False) hoj hap (fun cs b=>hsel i oi cs b hi) (fun cs b=>hsel j oj cs b hoj) hQ (Or.inl ⟨hw,fun _ hf=>hf.elim⟩) (H.2 j (ready_mono hj hji)))
   refine wpOp_mono ?_ q
   have step:∀ (b:Act) (y:World),execOp b.eval oi=execOp a.eval oi->Region.wanted oi (yielded ops b.tmps)=Region.wanted oi (yielded ops a.tmps)->wpAny P md ops Q n ((l.setIfInBounds i true).setIfInBounds j true) (b.put oi.dst v) y->wpAny P md ops Q (n+1) (l.setIfInBounds j true) b y:=fun b y e1 e2 hk=>by
    refine ih (l.setIfInBounds j true) b y (fun k ok hk hki hku hno=>hfree k ok hk hki ?_ hno) (ready_mono hr (Ne.symm hji)) (by rw [e2];exact hw) (fun x=>by rw [e1];exact hy x) ?_
    ·by_cases hjk:j=k
     ·subst hjk;exact hun
     ·rw [getD_set_ne true hjk] at hku;exact hku
    ·rw [Array.setIfInBounds_comm _ _ hji]
     exact hk
   rintro b y ⟨⟨u,rfl | ⟨f,rfl⟩⟩,-,hk⟩
   ·exact step _ _ (execOp_put oi (fun cs b=>hsel i oi cs b hi) a oj.dst u h3) (wanted_put oi a oj.dst u h3) hk
   ·exact step _ _ (execOp_put oi (fun cs b=>hsel i oi cs b hi) { a with defers:=f::a.defers } oj.dst u h3) (wanted_put oi { a with defers:=f::a.defers } oj.dst u h3) hk
theorem wpA_val {L r:List Oper} {i:Nat} {oi:Oper} {v:Value} {n:Nat} {l:Array Bool} {a:Act} {w:World} (hi:L.drop i=oi::r) (hs:Region.noSelect L.toArray=true) (hf:Region.free md L.toArray l i=true) (hr:(Region.ready md L.toArray l).contains i=true)
  (hQ:∀ c a w,Q (.panic c) (a.put oi.dst v) w->Q (.panic c) a w) (hw:Region.wanted oi (yielded L.toArray a.tmps)=true) (hy:∀ x,(execOp a.eval oi).run P x = .ok (.value v) x)
  (h:wpAny P md L.toArray Q n (l.setIfInBounds i true) (a.put oi.dst v) w):wpAny P md L.toArray Q (n+1) l a w:=
 wpA_first (at_drop hi) (Region.noSelect_spec hs) hQ n l a w (Region.free_spec (at_drop hi) hf) (by simpa using hr) hw hy h
theorem wpA_step {L r:List Oper} {i:Nat} {oi:Oper} {n:Nat} {l:Array Bool} {a:Act} {w y:World} (hr:Region.ready md L.toArray l=[i]) (hi:L.drop i=oi::r) (hw:Region.wanted oi (yielded L.toArray a.tmps)=true) (hy:(execOp a.eval oi).run P w = .ok .skip y)
  (h:wpAny P md L.toArray Q n (l.setIfInBounds i true) (a.put oi.dst undef) y):wpAny P md L.toArray Q (n+1) l a w:=by
 refine ⟨fun h=>(by rw [hr] at h;cases h),fun j hj=>?_⟩
 rw [hr,List.mem_singleton] at hj
 subst hj
 unfold wpOp
 rw [at_drop hi]
 dsimp only
 rw [if_pos hw]
 refine Or.inl ?_
 unfold Oper.wp
 rw [hy]
 exact h
theorem wpA_done {ops:Array Oper} {l:Array Bool} {a:Act} {w:World} (hr:Region.ready md ops l=[]) (h:Q .normal a w):∀ n,wpAny P md ops Q n l a w
 | 0=>⟨hr,h⟩
 | _+1=>⟨fun _=>h,by rw [hr];simp⟩
theorem wpA_store {L r:List Oper} {i:Nat} {oi:Oper} {n:Nat} {l:Array Bool} {a:Act} {w y:World} (hr:Region.ready md L.toArray l=[i]) (hi:L.drop i=oi::r) (hw:Region.wanted oi (yielded L.toArray a.tmps)=true) (hy:(execOp a.eval oi).run P w = .ok .skip y)
  (hd:Region.ready md L.toArray (l.setIfInBounds i true)=[]) (h:Q .normal (a.put oi.dst undef) y):wpAny P md L.toArray Q (n+1) l a w:=by
 refine ⟨fun h=>(by rw [hr] at h;cases h),fun j hj=>?_⟩
 rw [hr,List.mem_singleton] at hj
 subst hj
 unfold wpOp
 rw [at_drop hi]
 dsimp only
 rw [if_pos hw]
 refine Or.inl ?_
 unfold Oper.wp
 rw [hy]
 cases n with
 | zero=>exact ⟨hd,h⟩
 | succ n=>exact ⟨fun _=>h,by rw [hd];simp⟩
end
end Go.Proofs.YteaieagkjepgiaaGreatDoorT
/- . -/
namespace Go.Proofs.YteaieagkjepgiaaGreatDoorT
set_option maxRecDepth 100000
open Go.RowKit
section
variable {P:Program} {ops:Array Oper} {Q:Exit->Act->World->Prop} {md:Region.Mode} {tl:Nat->Bool}
def tailedD (tl:Nat->Bool) (ops:Array Oper) (l:Array Bool):Bool:=(List.range ops.size).all fun j=>l.getD j true||tl j
theorem tailedD_spec {l:Array Bool} (h:tailedD tl ops l=true) {j:Nat} (hj:l.getD j true=false) (hs:j<ops.size):tl j=true:=by
 have:=List.all_eq_true.1 h j (by simpa using hs)
 rw [hj,Bool.false_or] at this
 exact this
def wpD (P:Program) (md:Region.Mode) (ops:Array Oper) (Q:Exit->Act->World->Prop) (tl:Nat->Bool):Nat->Array Bool->Act->World->Prop
 | 0,l,a,w=>∀ x,Later w x->wpAny P md ops Q 0 l a x
 | n+1,l,a,w=>(tailedD tl ops l=true/\∀ x,Later w x->wpAny P md ops Q (n+1) l a x)\/(∀ x,Later w x->(Region.ready md ops l=[]->Q .normal a x) /\
   ∀ i ∈ Region.ready md ops l,wpOp P ops Q i (fun a' y=>Later x y/\wpD P md ops Q tl n (l.setIfInBounds i true) a' y) a x)
theorem wpD_later:∀ (n:Nat) (l:Array Bool) (a:Act) (w y:World),Later w y->wpD P md ops Q tl n l a w->wpD P md ops Q tl n l a y
 | 0,_,_,_,_,hy,h=>fun x hx=>h x (hy.trans hx)
 | _+1,_,_,_,_,hy,h=>h.imp (fun q=>⟨q.1,fun x hx=>q.2 x (hy.trans hx)⟩) (fun q x hx=>q x (hy.trans hx))
theorem wpAny_of_D:∀ (n:Nat) (l:Array Bool) (a:Act) (w:World),wpD P md ops Q tl n l a w->wpAny P md ops Q n l a w
 | 0,_,_,w,h=>h w (Later.refl w)
 | n+1,_,_,w,h=>by
  rcases h with h | h
  ·exact h.2 w (Later.refl w)
  ·exact ⟨(h w (Later.refl w)).1,fun i hi=>wpOp_mono (fun a' y hh=>wpAny_of_D n _ a' y hh.2) ((h w (Later.refl w)).2 i hi)⟩
def waitsD (md:Region.Mode) (tl:Nat->Bool) (ops:Array Oper) (l:Array Bool) (i:Nat) (C:List Nat):Bool:=
 (C.all fun c=>!(l.getD c true)&&(((ops[c]?).map fun o=>o.after.any fun e=>Region.binds md e&&((e.on==i)||C.contains e.on))==some true))&&((List.range ops.size).all fun f=>!(tl f)||l.getD f true||C.contains f)
theorem waitsD_spec {l:Array Bool} {i:Nat} {C:List Nat} (h:waitsD md tl ops l i C=true) (hi:l.getD i true=false):∀ c ∈ C,c ∉ Region.ready md ops l:=by
 unfold waitsD at h
 rw [Bool.and_eq_true] at h
 intro c hc hr
 have h1:=List.all_eq_true.1 h.1 c hc
 rw [Bool.and_eq_true] at h1
 obtain ⟨-,o,ho,hall⟩:=mem_ready.1 hr
 rw [ho] at h1
 simp only [Option.map_some,beq_iff_eq,Option.some.injEq] at h1
 have h2:=h1.2
 rw [Array.any_eq_true'] at h2
 obtain ⟨e,he,q⟩:=h2
 rw [Bool.and_eq_true,Bool.or_eq_true] at q
 have hd:=hall e he q.1
 rcases q.2 with q2 | q2
 ·rw [beq_iff_eq] at q2
  rw [q2] at hd
  exact getD_clash hi hd
 ·have hm:e.on ∈ C:=by simpa using q2
  have h3:=List.all_eq_true.1 h.1 _ hm
  rw [Bool.and_eq_true,Bool.not_eq_true'] at h3
  exact getD_clash h3.1 hd
theorem waitsD_last {l:Array Bool} {i f:Nat} {C:List Nat} (h:waitsD md tl ops l i C=true) (hf:tl f=true) (hu:l.getD f true=false) (hs:f<ops.size):f ∈ C:=by
 unfold waitsD at h
 rw [Bool.and_eq_true] at h
 have:=List.all_eq_true.1 h.2 f (by simpa using hs)
 rw [hu,Bool.or_false,hf] at this
 simpa using this
theorem waitsD_step {l:Array Bool} {i j:Nat} {C:List Nat} (h:waitsD md tl ops l i C=true) (hj:j ∉ C):waitsD md tl ops (l.setIfInBounds j true) i C=true:=by
 unfold waitsD at h ⊢
 rw [Bool.and_eq_true] at h ⊢
 refine ⟨List.all_eq_true.2 fun c hc=>?_,List.all_eq_true.2 fun f hf=>?_⟩
 ·have h1:=List.all_eq_true.1 h.1 c hc
  have hcj:j ≠ c:=fun e=>hj (e ▸ hc)
  rw [getD_set_ne true hcj]
  exact h1
 ·have h1:=List.all_eq_true.1 h.2 f hf
  by_cases e:j=f
  ·subst e
   have:(l.setIfInBounds j true).getD j true=true:=by
    simp only [Array.getD]
    split
    ·simp
    ·rfl
   rw [this]
   simp
  ·rw [getD_set_ne true e]
   exact h1
theorem wpD_first {i:Nat} {oi:Oper} {v:Value} {C:List Nat} (hi:ops[i]?=some oi) (hsel:∀ (j:Nat) (o:Oper) cs b,ops[j]?=some o->o.op ≠ .select cs b) (hQ:∀ c a w,Q (.panic c) (a.put oi.dst v) w->Q (.panic c) a w) :
  ∀ (n:Nat) (l:Array Bool) (a:Act) (w:World),waitsD md tl ops l i C=true->(∀ j oj,ops[j]?=some oj->j ≠ i->l.getD j true=false->(∀ e ∈ oj.after,Region.binds md e=true->e.on ≠ i)->oi.apart ops oj=true) ->
   i ∈ Region.ready md ops l->YL P ops oi v a w->wpD P md ops Q tl n (l.setIfInBounds i true) (a.put oi.dst v) w->wpD P md ops Q tl (n+1) l a w:=by
 intro n
 induction n with
 | zero =>
  intro l a w _ _ hr hy H
  refine .inr fun x hx=>⟨fun h=>(by rw [h] at hr;cases hr),fun j hj=>?_⟩
  by_cases hji:j=i
  ·subst hji
   exact hy.op hi hx fun y hxy=>⟨hxy,wpD_later 0 _ _ _ _ (hx.trans hxy) H⟩
  ·have q:=ready_mono hj hji
   rw [(H w (Later.refl w)).1] at q
   cases q
 | succ n ih =>
  intro l a w hwt hfree hr hy H
  refine .inr fun x hx=>⟨fun h=>(by rw [h] at hr;cases hr),fun j hj=>?_⟩
  by_cases hji:j=i
  ·subst hji
   exact hy.op hi hx fun y hxy=>⟨hxy,wpD_later (n+1) _ _ _ _ (hx.trans hxy) H⟩
  ·obtain ⟨hun,oj,hoj,-⟩:=mem_ready.1 hj
   have hjC:j ∉ C:=fun hc=>waitsD_spec hwt (mem_ready.1 hr).1 j hc hj
   rcases H with H | H
   ·have hju:(l.setIfInBounds i true).getD j true=false:=by rw [getD_set_ne true (Ne.symm hji)];exact hun
    have hjs:=(Array.getElem?_eq_some_iff.1 hoj).1
    have hjm:=tailedD_spec H.1 hju hjs
    exact absurd (waitsD_last hwt hjm hun hjs) hjC
   ·have q:=op_beside hoj (hfree j oj hoj hji hun (ready_free hr hj hoj)) (fun cs b=>hsel i oi cs b hi) (fun cs b=>hsel j oj cs b hoj) hQ hy ((H x hx).2 j (ready_mono hj hji))
    refine wpOp_mono (fun b y hb=>⟨hb.2.1,ih (l.setIfInBounds j true) b y (waitsD_step hwt hjC) (fun k ok hk hki hku hno=>hfree k ok hk hki ?_ hno) (ready_mono hr (Ne.symm hji)) (hb.1.later (hx.trans hb.2.1)) ?_⟩) q
    ·by_cases hjk:j=k
     ·subst hjk;exact hun
     ·rw [getD_set_ne true hjk] at hku;exact hku
    ·rw [Array.setIfInBounds_comm _ _ hji]
     exact hb.2.2
theorem wpD_tail {l:Array Bool} {a:Act} {w:World} (ht:tailedD tl ops l=true):∀ {n:Nat},(∀ x,Later w x->wpAny P md ops Q n l a x)->wpD P md ops Q tl n l a w
 | 0,h=>h
 | _+1,h=>.inl ⟨ht,h⟩
theorem wp_region_set {id:Nat} {a:Act} {w:World} (tl:Nat->Bool) (hm:P.follows .mixedOrders=true) (h:wpD P .any ops Q tl ops.size (Array.replicate ops.size false) a w.drew):(Code.region id ops true).wp P Q a w:=
 wp_region_any hm (wpAny_of_D _ _ _ _ h)
end
section
variable {P:Program} {Q:Exit->Act->World->Prop} {md:Region.Mode} {tl:Nat->Bool}
theorem wpD_val {L r:List Oper} {i:Nat} {oi:Oper} {v:Value} {n:Nat} {l:Array Bool} {a:Act} {w:World} (hi:L.drop i=oi::r) (hs:Region.noSelect L.toArray=true) (hf:Region.free md L.toArray l i=true) (hr:(Region.ready md L.toArray l).contains i=true) (ht:waitsD md tl L.toArray l i (clo md L.toArray l i)=true)
  (hQ:∀ c a w,Q (.panic c) (a.put oi.dst v) w->Q (.panic c) a w) (hw:Region.wanted oi (yielded L.toArray a.tmps)=true) (hy:∀ x,Later w x->(execOp a.eval oi).run P x = .ok (.value v) x)
  (h:wpD P md L.toArray Q tl n (l.setIfInBounds i true) (a.put oi.dst v) w):wpD P md L.toArray Q tl (n+1) l a w:=
 wpD_first (at_drop hi) (Region.noSelect_spec hs) hQ n l a w ht (Region.free_spec (at_drop hi) hf) (by simpa using hr) (Or.inl ⟨hw,fun x hx=>by unfold Oper.quietAt;rw [hy x hx];exact ⟨rfl,rfl⟩⟩) h
theorem wpD_call {L r:List Oper} {i:Nat} {oi:Oper} {v:Value} {f:FuncId} {args:Array Value} {n:Nat} {l:Array Bool} {a:Act} {w:World} (hi:L.drop i=oi::r) (hs:Region.noSelect L.toArray=true) (hf:Region.free md L.toArray l i=true) (hr:(Region.ready md L.toArray l).contains i=true) (ht:waitsD md tl L.toArray l i (clo md L.toArray l i)=true)
  (hQ:∀ c a w,Q (.panic c) (a.put oi.dst v) w->Q (.panic c) a w) (hw:Region.wanted oi (yielded L.toArray a.tmps)=true) (hy:∀ x,Later w x->(execOp a.eval oi).run P x = .ok (.enter f args) x)
  (hc:∀ x,Later w x->Calls P f args x fun e y=>e = .returned v/\Below x.heap.size x y)
  (h:wpD P md L.toArray Q tl n (l.setIfInBounds i true) (a.put oi.dst v) w):wpD P md L.toArray Q tl (n+1) l a w:=
 wpD_first (at_drop hi) (Region.noSelect_spec hs) hQ n l a w ht (Region.free_spec (at_drop hi) hf) (by simpa using hr) (Or.inl ⟨hw,fun x hx=>by unfold Oper.quietAt;rw [hy x hx];exact ⟨rfl,hc x hx⟩⟩) h
theorem wpD_one {L r:List Oper} {i:Nat} {oi:Oper} {n:Nat} {l:Array Bool} {a:Act} {w:World} (hr:Region.ready md L.toArray l=[i]) (hi:L.drop i=oi::r) (hw:Region.wanted oi (yielded L.toArray a.tmps)=true)
  (h:∀ x,Later w x->∃ (v:Value) (y:World),(execOp a.eval oi).run P x = .ok (.value v) y/\Later x y/\wpD P md L.toArray Q tl n (l.setIfInBounds i true) (a.put oi.dst v) y):wpD P md L.toArray Q tl (n+1) l a w:=by
 refine .inr fun x hx=>?_
 rw [hr]
 refine ⟨fun h=>(by cases h),fun j hj=>?_⟩
 rw [List.mem_singleton] at hj
 subst hj
 obtain ⟨v,y,h1,h2,h3⟩:=h x hx
 unfold wpOp
 rw [at_drop hi]
 dsimp only
 rw [if_pos hw]
 refine Or.inl ?_
 unfold Oper.wp
 rw [h1]
 exact ⟨h2,h3⟩
theorem wpD_onecall {L r:List Oper} {i:Nat} {oi:Oper} {f:FuncId} {args:Array Value} {n:Nat} {l:Array Bool} {a:Act} {w:World} (hr:Region.ready md L.toArray l=[i]) (hi:L.drop i=oi::r) (hw:Region.wanted oi (yielded L.toArray a.tmps)=true)
  (hy:∀ x,Later w x->(execOp a.eval oi).run P x = .ok (.enter f args) x)
  (h:∀ x,Later w x->Calls P f args x fun e y=>∃ v,e = .returned v/\Below x.heap.size x y/\wpD P md L.toArray Q tl n (l.setIfInBounds i true) (a.put oi.dst v) y):wpD P md L.toArray Q tl (n+1) l a w:=by
 refine .inr fun x hx=>?_
 rw [hr]
 refine ⟨fun h=>(by cases h),fun j hj=>?_⟩
 rw [List.mem_singleton] at hj
 subst hj
 unfold wpOp
 rw [at_drop hi]
 dsimp only
 rw [if_pos hw]
 refine Or.inl ?_
 unfold Oper.wp
 rw [hy x hx]
 exact (h x hx).mono (by rintro e y ⟨v,rfl,h1,h2⟩;exact ⟨h1,h2⟩)
theorem wpD_callbox {L r r':List Oper} {i j:Nat} {oi oj:Oper} {f:FuncId} {args:Array Value} {n:Nat} {l:Array Bool} {a:Act} {w:World} {C:Array Value} {t:TypeId}
  (hr:Region.ready md L.toArray l=[i,j]) (hi:L.drop i=oi::r) (hj:L.drop j=oj::r') (hw:Region.wanted oi (yielded L.toArray a.tmps)=true) (hwj:Region.wanted oj (yielded L.toArray a.tmps)=true)
  (hy:∀ x,Later w x->(execOp a.eval oi).run P x = .ok (.enter f args) x) (hz:∀ x,Later w x->(execOp a.eval oj).run P x = .ok (.value (.pointer (some ⟨x.heap.size,0,none⟩))) (x.alloc (.cells C t)))
  (h1:∀ x,Later w x->Calls P f args x fun e y=>∃ v,e = .returned v/\Below x.heap.size x y/\wpD P md L.toArray Q tl n (l.setIfInBounds i true) (a.put oi.dst v) y)
  (h2:∀ x,Later w x->wpD P md L.toArray Q tl n (l.setIfInBounds j true) (a.put oj.dst (.pointer (some ⟨x.heap.size,0,none⟩))) (x.alloc (.cells C t))):wpD P md L.toArray Q tl (n+1) l a w:=by
 refine .inr fun x hx=>?_
 rw [hr]
 refine ⟨fun h=>(by cases h),fun k hk=>?_⟩
 rw [List.mem_cons,List.mem_singleton] at hk
 unfold wpOp
 rcases hk with rfl | rfl
 ·rw [at_drop hi]
  dsimp only
  rw [if_pos hw]
  refine Or.inl ?_
  unfold Oper.wp
  rw [hy x hx]
  exact (h1 x hx).mono (by rintro e y ⟨v,rfl,q1,q2⟩;exact ⟨q1,q2⟩)
 ·rw [at_drop hj]
  dsimp only
  rw [if_pos hwj]
  refine Or.inl ?_
  unfold Oper.wp
  rw [hz x hx]
  exact ⟨(Below.refl _ _).alloc (Nat.le_refl _) _,h2 x hx⟩
theorem wpD_purely {ops:Array Oper} {i:Nat} {oi:Oper} {v:Value} (hi:ops[i]?=some oi) (hti:tl i=true) (hsel:∀ (j:Nat) (o:Oper) cs b,ops[j]?=some o->o.op ≠ .select cs b) (hQ:∀ c a w,Q (.panic c) (a.put oi.dst v) w->Q (.panic c) a w) :
  ∀ (n:Nat) (l:Array Bool) (a:Act) (w:World),(∀ j oj,ops[j]?=some oj->j ≠ i->l.getD j true=false->(∀ e ∈ oj.after,Region.binds md e=true->e.on ≠ i)->oi.apart ops oj=true) ->
   i ∈ Region.ready md ops l->Region.wanted oi (yielded ops a.tmps)=true->(∀ x,(execOp a.eval oi).run P x = .ok (.value v) x)->wpD P md ops Q tl n (l.setIfInBounds i true) (a.put oi.dst v) w->wpD P md ops Q tl (n+1) l a w:=by
 have htail:∀ {l:Array Bool},tailedD tl ops (l.setIfInBounds i true)=true->tailedD tl ops l=true:=fun {l} h=>by
  unfold tailedD at h ⊢
  refine List.all_eq_true.2 fun j hj=>?_
  by_cases e:i=j
  ·subst e
   rw [hti,Bool.or_true]
  ·have:=List.all_eq_true.1 h j hj
   rw [getD_set_ne true e] at this
   exact this
 intro n
 induction n with
 | zero =>
  intro l a w _ hr hw hy H
  refine .inr fun x hx=>⟨fun h=>(by rw [h] at hr;cases hr),fun j hj=>?_⟩
  by_cases hji:j=i
  ·subst hji
   have hyl:YL P ops oi v a w:=Or.inl ⟨hw,fun x _=>by unfold Oper.quietAt;rw [hy x];exact ⟨rfl,rfl⟩⟩
   exact hyl.op hi hx fun y hxy=>⟨hxy,wpD_later 0 _ _ _ _ (hx.trans hxy) H⟩
  ·have q:=ready_mono hj hji
   rw [(H w (Later.refl w)).1] at q
   cases q
 | succ n ih =>
  intro l a w hfree hr hw hy H
  rcases H with H | H
  ·exact .inl ⟨htail H.1,fun x hx=>wpA_first hi hsel hQ _ l a x hfree hr hw hy (H.2 x hx)⟩
  ·have hyl:YL P ops oi v a w:=Or.inl ⟨hw,fun x _=>by unfold Oper.quietAt;rw [hy x];exact ⟨rfl,rfl⟩⟩
   refine .inr fun x hx=>⟨fun h=>(by rw [h] at hr;cases hr),fun j hj=>?_⟩
   by_cases hji:j=i
   ·subst hji
    exact hyl.op hi hx fun y hxy=>⟨hxy,wpD_later (n+1) _ _ _ _ (hx.trans hxy) (.inr H)⟩
   ·obtain ⟨hun,oj,hoj,-⟩:=mem_ready.1 hj
    have hap:=hfree j oj hoj hji hun (ready_free hr hj hoj)
    have h3:=(Oper.apart_spec hap).2.2
    have q:=op_frame hoj (wpOp_putIf (S:=fun _=>False) hoj hap (fun cs b=>hsel i oi cs b hi) (fun cs b=>hsel j oj cs b hoj) hQ (Or.inl ⟨hw,fun _ hf=>hf.elim⟩) ((H x hx).2 j (ready_mono hj hji)))
    refine wpOp_mono ?_ q
    have step:∀ (b:Act) (y:World),Later x y->execOp b.eval oi=execOp a.eval oi->Region.wanted oi (yielded ops b.tmps)=Region.wanted oi (yielded ops a.tmps)->wpD P md ops Q tl n ((l.setIfInBounds i true).setIfInBounds j true) (b.put oi.dst v) y->Later x y/\wpD P md ops Q tl (n+1) (l.setIfInBounds j true) b y:=fun b y hl e1 e2 hk=>by
     refine ⟨hl,ih (l.setIfInBounds j true) b y (fun k ok hk hki hku hno=>hfree k ok hk hki ?_ hno) (ready_mono hr (Ne.symm hji)) (by rw [e2];exact hw) (fun x=>by rw [e1];exact hy x) ?_⟩
     ·by_cases hjk:j=k
      ·subst hjk;exact hun
      ·rw [getD_set_ne true hjk] at hku;exact hku
     ·rw [Array.setIfInBounds_comm _ _ hji]
      exact hk
    rintro b y ⟨⟨u,rfl | ⟨f,rfl⟩⟩,-,hl,hk⟩
    ·exact step _ _ hl (execOp_put oi (fun cs b=>hsel i oi cs b hi) a oj.dst u h3) (wanted_put oi a oj.dst u h3) hk
    ·exact step _ _ hl (execOp_put oi (fun cs b=>hsel i oi cs b hi) { a with defers:=f::a.defers } oj.dst u h3) (wanted_put oi { a with defers:=f::a.defers } oj.dst u h3) hk
theorem wpD_pure {L r:List Oper} {i:Nat} {oi:Oper} {v:Value} {n:Nat} {l:Array Bool} {a:Act} {w:World} (hi:L.drop i=oi::r) (hti:tl i=true) (hs:Region.noSelect L.toArray=true) (hf:Region.free md L.toArray l i=true) (hr:(Region.ready md L.toArray l).contains i=true)
  (hQ:∀ c a w,Q (.panic c) (a.put oi.dst v) w->Q (.panic c) a w) (hw:Region.wanted oi (yielded L.toArray a.tmps)=true) (hy:∀ x,(execOp a.eval oi).run P x = .ok (.value v) x)
  (h:wpD P md L.toArray Q tl n (l.setIfInBounds i true) (a.put oi.dst v) w):wpD P md L.toArray Q tl (n+1) l a w:=
 wpD_purely (at_drop hi) hti (Region.noSelect_spec hs) hQ n l a w (Region.free_spec (at_drop hi) hf) (by simpa using hr) hw hy h
end
end Go.Proofs.YteaieagkjepgiaaGreatDoorT
/- . -/
namespace Go.Proofs.YteaieagkjepgiaaGreatDoorT
set_option maxRecDepth 100000
open Go.RowKit BigFrame
attribute [local go_sem ↓] Go.wp_at_zero Go.wp_at_succ
theorem specLoadOf (H:HM) (a:Option Addr) (cap:Nat) (w:World):Calls Tw.prog 64 #[hov H a cap] w fun e w'=>e = .returned (.int .i64 (H.us.length:Nat))/\Below w.heap.size w w':=by
 obtain ⟨id,up,us⟩:=H
 dsimp only [hov]
 generalize us.length=n
 go_enter Tw.func64,Tw.ntmps64
 go_wp2_with fail
 go_ret
 exact ⟨rfl,(Below.refl _ _).alloc (Nat.le_refl _) _⟩
end Go.Proofs.YteaieagkjepgiaaGreatDoorT
/- . -/
namespace Go.Proofs.YteaieagkjepgiaaGreatDoorT
set_option maxRecDepth 100000
open Go.RowKit
attribute [local go_sem ↓] Go.wp_at_zero Go.wp_at_succ
def CodeAt (w:World) (B:Nat) (a:Option Addr) (len:Nat):Prop:=
 len<=1048576/\(0<len->∃ b off,a=some ⟨b,off,none⟩/\b<B/\∀ j,j<len->∃ x:Int,w.cell? ⟨b,off+j,none⟩=some (.int .u8 x)/\0<=x/\x<=255)
def Cur (w:World) (g B:Nat) (a:Option Addr) (len cap:Nat):Prop:=
 B<=g/\g<w.heap.size/\CodeAt w B a len/\w.cell? ⟨g,0,none⟩=some (.slice a len cap) /\
 (∃ i:Nat,w.cell? ⟨g,1,none⟩=some (.int .i64 i)/\i<=len)/\(∃ h:Int,w.cell? ⟨g,2,none⟩=some (.int .i64 h)) /\
 (∀ j,j<3->w.frozen? ⟨g,j,none⟩=false)
theorem CodeAt.below {w w':World} {B C len:Nat} {a:Option Addr} (h:CodeAt w B a len) (hb:Below C w w') (hC:B<=C):CodeAt w' B a len:=by
 refine ⟨h.1,fun hl=>?_⟩
 obtain ⟨b,off,rfl,hlt,hx⟩:=h.2 hl
 refine ⟨b,off,rfl,hlt,fun j hj=>?_⟩
 obtain ⟨x,hc,h0,h1⟩:=hx j hj
 exact ⟨x,(hb.cell (p:=⟨b,off+j,none⟩) (Nat.lt_of_lt_of_le hlt hC)).trans hc,h0,h1⟩
theorem Cur.below {w w':World} {g B len cap:Nat} {a:Option Addr} (h:Cur w g B a len cap) (hb:Below w.heap.size w w'):Cur w' g B a len cap:=by
 obtain ⟨hB,hg,hcode,c0,⟨i,c1,hi⟩,⟨k,c2⟩,hf⟩:=h
 exact ⟨hB,Nat.lt_of_lt_of_le hg hb.size,hcode.below hb (by omega),(hb.cell (p:=⟨g,0,none⟩) hg).trans c0,⟨i,(hb.cell (p:=⟨g,1,none⟩) hg).trans c1,hi⟩,⟨k,(hb.cell (p:=⟨g,2,none⟩) hg).trans c2⟩,
  fun j hj=>(hb.frozen (p:=⟨g,j,none⟩) hg).trans (hf j hj)⟩
end Go.Proofs.YteaieagkjepgiaaGreatDoorT
/- . -/
namespace Go.Proofs.YteaieagkjepgiaaGreatDoorT
set_option maxRecDepth 100000
open Go.RowKit
end Go.Proofs.YteaieagkjepgiaaGreatDoorT
