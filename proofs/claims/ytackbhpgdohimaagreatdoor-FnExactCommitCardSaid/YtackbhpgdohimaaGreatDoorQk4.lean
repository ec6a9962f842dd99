/- Texts of ours, laid one behind the other: GrwB, GrwC, GrwD, GrwH, SumM, HexM, SumS, CpA, LeM, OwS, ApRow, SpN, TreL, LawTrn, SpnB, EdB, EdD, PathS, SpnC, SpnD, NestB, NestC. -/
import Derived.Test.YtackbhpgdohimaaGreatDoorQk1
import Derived.Test.YtackbhpgdohimaaGreatDoorQk3
import Derived.Test.YtackbhpgdohimaaGreatDoorQk2
import Derived.BigQuiet
import Derived.OrdersHeld
import Derived.KernelRfl
import Derived.PlainAid
import Derived.Deep.RegionHeld3
import Derived.Deep.DrawnRows
import Derived.Deep.AppendLies
import Derived.OwnWalk
import Derived.Lib.LaidTab
import Derived.Lib.SmallJoins
import Derived.Deep.Upon
import Derived.Maps.AppendAt
import Derived.Deep.CutRange
/- GrwB: . -/
namespace Go.Proofs.YtackbhpgdohimaaGreatDoor
set_option maxRecDepth 100000
set_option maxHeartbeats 16000000
open Go.RowKit
attribute [local go_sem ↓] Go.wp_at_zero Go.wp_at_succ
section
theorem qA {α:Type} (l:List α) (i:Nat) (a:α):l.toArray.setIfInBounds i a=(l.set i a).toArray:=by simp
theorem qB {α:Type} (x:α) (l:List α) (a:α):(x::l).set 0 a=a::l:=rfl
theorem qC {α:Type} (x:α) (l:List α) (n:Nat) (a:α):(x::l).set (n+1) a=x::l.set n a:=rfl
def Later (w w':World):Prop:=Below w.heap.size w w'
theorem Later.refl (w:World):Later w w:=zB
theorem Later.trans {a b c:World} (h:Later a b) (g:Later b c):Later a c:=Below.trans h (Below.mono g (Below.size h))
section
variable {P:Program} {ops:Array Oper} {Q:Exit->Act->World->Prop} {md:Region.Mode}
def wpL (P:Program) (md:Region.Mode) (ops:Array Oper) (Q:Exit->Act->World->Prop):Nat->Array Bool->Act->World->Prop
 | 0,l,a,w=>Region.ready md ops l=[]/\∀ x,Later w x->Q .normal a x
 | n+1,l,a,w=>∀ x,Later w x->(Region.ready md ops l=[]->Q .normal a x) /\
   ∀ i ∈ Region.ready md ops l,wpOp P ops Q i (fun a' y=>Later x y/\wpL P md ops Q n (l.setIfInBounds i true) a' y) a x
theorem qnp:∀ (n:Nat) (l:Array Bool) (a:Act) (w y:World),Later w y->wpL P md ops Q n l a w->wpL P md ops Q n l a y
 | 0,_,_,_,_,hy,h=>⟨h.1,fun x hx=>h.2 x (hy.trans hx)⟩
 | _+1,_,_,_,_,hy,h=>fun x hx=>h x (hy.trans hx)
theorem qlq:∀ (n:Nat) (l:Array Bool) (a:Act) (w:World),wpL P md ops Q n l a w->wpAny P md ops Q n l a w
 | 0,_,_,w,h=>⟨h.1,h.2 w (Later.refl w)⟩
 | n+1,_,_,w,h=>⟨(h w (Later.refl w)).1,fun i hi=>wpOp_mono (fun a' y hh=>qlq n _ a' y hh.2) ((h w (Later.refl w)).2 i hi)⟩
def YL (P:Program) (ops:Array Oper) (o:Oper) (v:Value) (a:Act) (w:World):Prop:=
 (Region.wanted o (yielded ops a.tmps)=true/\∀ x,Later w x->o.quietAt P a (Later x) x v)\/(Region.wanted o (yielded ops a.tmps)=false/\v=undef)
theorem YL.later {o:Oper} {v:Value} {a:Act} {w y:World} (h:YL P ops o v a w) (hy:Later w y):YL P ops o v a y:=
 h.imp (fun q=>⟨q.1,fun x hx=>q.2 x (hy.trans hx)⟩) id
theorem YL.same {o:Oper} {v:Value} {a b:Act} {w:World} (h:YL P ops o v a w) (he:execOp b.eval o=execOp a.eval o) (hw:Region.wanted o (yielded ops b.tmps)=Region.wanted o (yielded ops a.tmps)):YL P ops o v b w:=by
 unfold YL Oper.quietAt at *;rw [he,hw];exact h
theorem YL.op {i:Nat} {o:Oper} {v:Value} {a:Act} {w x:World} {K:Act->World->Prop} (hi:ops[i]?=some o) (h:YL P ops o v a w) (hx:Later w x) (hk:∀ y,Later x y->K (a.put o.dst v) y):wpOp P ops Q i K a x:=by
 unfold wpOp;rw [hi];dsimp only;rcases h with ⟨hw,hq⟩ | ⟨hw,hv⟩
 ·rw [if_pos hw]
  refine Or.inl ?_;have q:=hq x hx;unfold Oper.quietAt at q;unfold Oper.wp
  revert q
  cases (execOp a.eval o).run P x with
  | halt _ _=>exact False.elim
  | ok r y =>
   cases r with
   | value u=>rintro ⟨rfl,rfl⟩;exact hk _ (Later.refl _)
   | skip=>rintro ⟨rfl,rfl⟩;exact hk _ (Later.refl _)
   | enter f args=>rintro ⟨rfl,hc⟩;exact hc.mono (by rintro _ z ⟨rfl,hz⟩;exact hk _ hz)
   | _=>exact False.elim
 ·rw [if_neg (by rw [hw];exact Bool.false_ne_true),<-hv]
  exact hk _ (Later.refl _)
def Fr (d:Option Tmp) (a b:Act):Prop:=∃ u,b=a.put d u\/∃ f,b = { a with defers:=f::a.defers }.put d u
theorem qmq {j:Nat} {oj:Oper} {K:Act->World->Prop} {a:Act} {x:World} (hj:ops[j]?=some oj) (h:wpOp P ops Q j K a x):wpOp P ops Q j (fun b y=>Fr oj.dst a b/\K b y) a x:=by
 unfold wpOp at h ⊢;rw [hj] at h ⊢;dsimp only at h ⊢;split
 ·rename_i hw
  rw [if_pos hw] at h;refine h.imp_left fun q=>?_;unfold Oper.wp at q ⊢
  revert q
  cases (execOp a.eval oj).run P x with
  | halt r y=>cases r <;> exact id
  | ok r y =>
   cases r with
   | value u=>exact fun q=>⟨⟨u,.inl rfl⟩,q⟩
   | skip=>exact fun q=>⟨⟨undef,.inl rfl⟩,q⟩
   | defer f=>exact fun q=>⟨⟨undef,.inr ⟨f,rfl⟩⟩,q⟩
   | enter f args=>exact fun q=>Calls.mono q fun e z hz=>by cases e <;> first | exact ⟨⟨_,.inl rfl⟩,hz⟩ | exact hz
   | row r args=>exact fun q=>Rows.mono q fun u z hz=>⟨⟨u,.inl rfl⟩,hz⟩
   | _=>exact id
 ·rename_i hw
  rw [if_neg hw] at h;exact ⟨⟨undef,.inl rfl⟩,h⟩
theorem qjz {j:Nat} {oi oj:Oper} {v:Value} {w:World} (hj:ops[j]?=some oj) (hap:oi.apart ops oj=true) (hsi:∀ cs b,oi.op ≠ .select cs b) (hsj:∀ cs b,oj.op ≠ .select cs b)
  (hQ:∀ c a w,Q (.panic c) (a.put oi.dst v) w->Q (.panic c) a w) {K:Act->World->Prop} {a:Act} {x:World} (hy:YL P ops oi v a w) (h:wpOp P ops Q j K (a.put oi.dst v) x) :
  wpOp P ops Q j (fun a' y=>YL P ops oi v a' w/\K (a'.put oi.dst v) y) a x:=by
 have h3:=(Oper.apart_spec hap).2.2;refine wpOp_mono ?_ (qmq hj (wpOp_putIf (S:=fun _=>False) hj hap hsi hsj hQ (hy.imp (fun q=>⟨q.1,fun _ hf=>hf.elim⟩) id) h));rintro b y ⟨⟨u,rfl | ⟨f,rfl⟩⟩,-,hk⟩
 ·exact ⟨hy.same (execOp_put oi hsi a oj.dst u h3) (wanted_put oi a oj.dst u h3),hk⟩
 ·have q:YL P ops oi v { a with defers:=f::a.defers } w:=hy.same rfl rfl
  exact ⟨q.same (execOp_put oi hsi _ oj.dst u h3) (wanted_put oi _ oj.dst u h3),hk⟩
theorem qew {l:Array Bool} {i j:Nat} {oj:Oper} (hi:i ∈ Region.ready md ops l) (hj:j ∈ Region.ready md ops l) (ho:ops[j]?=some oj):∀ e ∈ oj.after,Region.binds md e=true->e.on ≠ i:=by
 obtain ⟨-,o',ho',hall⟩:=mem_ready.1 hj;obtain rfl:oj=o':=Option.some.inj (ho.symm.trans ho');rintro e he hb rfl;have q:=hall e he hb;have z:=(mem_ready.1 hi).1
 grind
theorem qka {i:Nat} {oi:Oper} {v:Value} (hi:ops[i]?=some oi) (hsel:∀ (j:Nat) (o:Oper) cs b,ops[j]?=some o->o.op ≠ .select cs b) (hQ:∀ c a w,Q (.panic c) (a.put oi.dst v) w->Q (.panic c) a w) :
  ∀ (n:Nat) (l:Array Bool) (a:Act) (w:World),(∀ j oj,ops[j]?=some oj->j ≠ i->l.getD j true=false->(∀ e ∈ oj.after,Region.binds md e=true->e.on ≠ i)->oi.apart ops oj=true) ->
   i ∈ Region.ready md ops l->YL P ops oi v a w->wpL P md ops Q n (l.setIfInBounds i true) (a.put oi.dst v) w->wpL P md ops Q (n+1) l a w:=by
 intro n
 induction n with
 | zero =>
  intro l a w _ hr hy H x hx;refine ⟨fun h=>(by rw [h] at hr;cases hr),fun j hj=>?_⟩
  by_cases hji:j=i
  ·subst hji
   exact hy.op hi hx fun y hxy=>⟨hxy,qnp 0 _ _ _ _ (hx.trans hxy) H⟩
  ·have q:=ready_mono hj hji
   rw [H.1] at q;cases q
 | succ n ih =>
  intro l a w hfree hr hy H x hx;refine ⟨fun h=>(by rw [h] at hr;cases hr),fun j hj=>?_⟩
  by_cases hji:j=i
  ·subst hji
   exact hy.op hi hx fun y hxy=>⟨hxy,qnp (n+1) _ _ _ _ (hx.trans hxy) H⟩
  ·obtain ⟨hun,oj,hoj,-⟩:=mem_ready.1 hj
   have q:=qjz hoj (hfree j oj hoj hji hun (qew hr hj hoj)) (fun cs b=>hsel i oi cs b hi) (fun cs b=>hsel j oj cs b hoj) hQ hy ((H x hx).2 j (ready_mono hj hji));refine wpOp_mono (fun b y hb=>⟨hb.2.1,ih (l.setIfInBounds j true) b y (fun k ok hk hki hku hno=>hfree k ok hk hki ?_ hno) (ready_mono hr (Ne.symm hji)) (hb.1.later (hx.trans hb.2.1)) ?_⟩) q
   ·by_cases hjk:j=k
    ·subst hjk;exact hun
    ·rw [getD_set_ne true hjk] at hku;exact hku
   ·rw [Array.setIfInBounds_comm _ _ hji]
    exact hb.2.2
theorem qat {L r:List Oper} {i:Nat} {o:Oper} (h:L.drop i=o::r):L.toArray[i]?=some o:=by
 have q:(L.drop i)[0]?=some o:=by rw [h];rfl
 simpa using q
theorem wpL_val {L r:List Oper} {i:Nat} {oi:Oper} {v:Value} {n:Nat} {l:Array Bool} {a:Act} {w:World} (hi:L.drop i=oi::r) (hs:Region.noSelect L.toArray=true) (hf:Region.free md L.toArray l i=true) (hr:(Region.ready md L.toArray l).contains i=true)
  (hQ:∀ c a w,Q (.panic c) (a.put oi.dst v) w->Q (.panic c) a w) (hw:Region.wanted oi (yielded L.toArray a.tmps)=true) (hy:∀ x,Later w x->(execOp a.eval oi).run P x = .ok (.value v) x)
  (h:wpL P md L.toArray Q n (l.setIfInBounds i true) (a.put oi.dst v) w):wpL P md L.toArray Q (n+1) l a w:=
 qka (qat hi) (Region.noSelect_spec hs) hQ n l a w (Region.free_spec (qat hi) hf) (by simpa using hr) (Or.inl ⟨hw,fun x hx=>by unfold Oper.quietAt;rw [hy x hx];exact ⟨rfl,rfl⟩⟩) h
theorem qcq {L r:List Oper} {i:Nat} {oi:Oper} {v:Value} {f:FuncId} {args:Array Value} {n:Nat} {l:Array Bool} {a:Act} {w:World} (hi:L.drop i=oi::r) (hs:Region.noSelect L.toArray=true) (hf:Region.free md L.toArray l i=true) (hr:(Region.ready md L.toArray l).contains i=true)
  (hQ:∀ c a w,Q (.panic c) (a.put oi.dst v) w->Q (.panic c) a w) (hw:Region.wanted oi (yielded L.toArray a.tmps)=true) (hy:∀ x,Later w x->(execOp a.eval oi).run P x = .ok (.enter f args) x)
  (hc:∀ x,Later w x->Calls P f args x fun e y=>e = .returned v/\Below x.heap.size x y)
  (h:wpL P md L.toArray Q n (l.setIfInBounds i true) (a.put oi.dst v) w):wpL P md L.toArray Q (n+1) l a w:=
 qka (qat hi) (Region.noSelect_spec hs) hQ n l a w (Region.free_spec (qat hi) hf) (by simpa using hr) (Or.inl ⟨hw,fun x hx=>by unfold Oper.quietAt;rw [hy x hx];exact ⟨rfl,hc x hx⟩⟩) h
theorem wpL_one {L r:List Oper} {i:Nat} {oi:Oper} {n:Nat} {l:Array Bool} {a:Act} {w:World} (hr:Region.ready md L.toArray l=[i]) (hi:L.drop i=oi::r) (hw:Region.wanted oi (yielded L.toArray a.tmps)=true)
  (h:∀ x,Later w x->∃ (v:Value) (y:World),(execOp a.eval oi).run P x = .ok (.value v) y/\Later x y/\wpL P md L.toArray Q n (l.setIfInBounds i true) (a.put oi.dst v) y):wpL P md L.toArray Q (n+1) l a w:=by
 intro x hx;rw [hr];refine ⟨fun h=>(by cases h),fun j hj=>?_⟩;rw [List.mem_singleton] at hj;subst hj;obtain ⟨v,y,h1,h2,h3⟩:=h x hx;unfold wpOp;rw [qat hi];dsimp only;rw [if_pos hw];refine Or.inl ?_;unfold Oper.wp;rw [h1];exact ⟨h2,h3⟩
theorem qdd {l:Array Bool} {a:Act} {w:World} (hr:Region.ready md ops l=[]) (h:∀ x,Later w x->Q .normal a x):∀ n,wpL P md ops Q n l a w
 | 0=>⟨hr,h⟩
 | _+1=>fun x hx=>⟨fun _=>h x hx,by rw [hr];simp⟩
theorem qar {id:Nat} {a:Act} {w:World} (hm:P.follows .mixedOrders=true) (h:wpL P .any ops Q ops.size (Array.replicate ops.size false) a w.drew):(Code.region id ops true).wp P Q a w:=
 wp_region_any hm (qlq _ _ _ _ h)
end
section
variable {P:Program} {Q:Exit->Act->World->Prop} {md:Region.Mode}
end
section
variable {P:Program} {Q:Exit->Act->World->Prop} {md:Region.Mode}
theorem wpL_skip {L r:List Oper} {i:Nat} {oi:Oper} {n:Nat} {l:Array Bool} {a:Act} {w:World} (hi:L.drop i=oi::r) (hs:Region.noSelect L.toArray=true) (hf:Region.free md L.toArray l i=true) (hr:(Region.ready md L.toArray l).contains i=true)
  (hQ:∀ c a w,Q (.panic c) (a.put oi.dst undef) w->Q (.panic c) a w) (hw:Region.wanted oi (yielded L.toArray a.tmps)=false)
  (h:wpL P md L.toArray Q n (l.setIfInBounds i true) (a.put oi.dst undef) w):wpL P md L.toArray Q (n+1) l a w:=
 qka (qat hi) (Region.noSelect_spec hs) hQ n l a w (Region.free_spec (qat hi) hf) (by simpa using hr) (Or.inr ⟨hw,rfl⟩) h
theorem wpL_v (i:Nat) {L r:List Oper} {oi:Oper} {v:Value} {n:Nat} {l:Array Bool} {a:Act} {w:World} (hi:L.drop i=oi::r) (hy:∀ x,Later w x->(execOp a.eval oi).run P x = .ok (.value v) x) (h:wpL P md L.toArray Q n (l.setIfInBounds i true) (a.put oi.dst v) w) (hs:Region.noSelect L.toArray=true:=by kernel_rfl) (hf:Region.free md L.toArray l i=true:=by kernel_rfl) (hr:(Region.ready md L.toArray l).contains i=true:=by kernel_rfl) (hQ:∀ c a w,Q (.panic c) (a.put oi.dst v) w->Q (.panic c) a w:=by exact fun _ _ _ h=>h) (hw:Region.wanted oi (yielded L.toArray a.tmps)=true:=by rfl):wpL P md L.toArray Q (n+1) l a w:=wpL_val hi hs hf hr hQ hw hy h
theorem wpL_s (i:Nat) {L r:List Oper} {oi:Oper} {n:Nat} {l:Array Bool} {a:Act} {w:World} (hi:L.drop i=oi::r) (h:wpL P md L.toArray Q n (l.setIfInBounds i true) (a.put oi.dst undef) w) (hs:Region.noSelect L.toArray=true:=by kernel_rfl) (hf:Region.free md L.toArray l i=true:=by kernel_rfl) (hr:(Region.ready md L.toArray l).contains i=true:=by kernel_rfl) (hQ:∀ c a w,Q (.panic c) (a.put oi.dst undef) w->Q (.panic c) a w:=by exact fun _ _ _ h=>h) (hw:Region.wanted oi (yielded L.toArray a.tmps)=false:=by rfl):wpL P md L.toArray Q (n+1) l a w:=wpL_skip hi hs hf hr hQ hw h
end
section
variable {P:Program} {ops:Array Oper} {Q:Exit->Act->World->Prop} {md:Region.Mode} {m:Nat}
def qrp (m:Nat) (ops:Array Oper) (l:Array Bool):Bool:=(List.range m).all fun j=>l.getD j true||decide (ops.size<=j)
theorem tailed_spec {l:Array Bool} (h:qrp m ops l=true) {j:Nat} (hj:l.getD j true=false) (hs:j<ops.size):m<=j:=by
 refine Nat.le_of_not_lt fun hlt=>?_;have:=List.all_eq_true.1 h j (by simpa using hlt);rw [hj,Bool.false_or,decide_eq_true_eq] at this;omega
def wpK (P:Program) (md:Region.Mode) (ops:Array Oper) (Q:Exit->Act->World->Prop) (m:Nat):Nat->Array Bool->Act->World->Prop
 | 0,l,a,w=>∀ x,Later w x->wpAny P md ops Q 0 l a x
 | n+1,l,a,w=>(qrp m ops l=true/\∀ x,Later w x->wpAny P md ops Q (n+1) l a x)\/(∀ x,Later w x->(Region.ready md ops l=[]->Q .normal a x) /\
   ∀ i ∈ Region.ready md ops l,wpOp P ops Q i (fun a' y=>Later x y/\wpK P md ops Q m n (l.setIfInBounds i true) a' y) a x)
theorem qnq:∀ (n:Nat) (l:Array Bool) (a:Act) (w y:World),Later w y->wpK P md ops Q m n l a w->wpK P md ops Q m n l a y
 | 0,_,_,_,_,hy,h=>fun x hx=>h x (hy.trans hx)
 | _+1,_,_,_,_,hy,h=>h.imp (fun q=>⟨q.1,fun x hx=>q.2 x (hy.trans hx)⟩) (fun q x hx=>q x (hy.trans hx))
theorem qlr:∀ (n:Nat) (l:Array Bool) (a:Act) (w:World),wpK P md ops Q m n l a w->wpAny P md ops Q n l a w
 | 0,_,_,w,h=>h w (Later.refl w)
 | n+1,_,_,w,h=>by
  rcases h with h | h
  ·exact h.2 w (Later.refl w)
  ·exact ⟨(h w (Later.refl w)).1,fun i hi=>wpOp_mono (fun a' y hh=>qlr n _ a' y hh.2) ((h w (Later.refl w)).2 i hi)⟩
def clo (md:Region.Mode) (ops:Array Oper) (l:Array Bool) (i:Nat):List Nat:=(List.range ops.size).foldl (fun acc f=>if !(l.getD f true)&&(((ops[f]?).map fun o=>o.after.any fun e=>Region.binds md e&&((e.on==i)||acc.contains e.on))==some true) then f::acc else acc) []
def waits (md:Region.Mode) (m:Nat) (ops:Array Oper) (l:Array Bool) (i:Nat) (C:List Nat):Bool:=
 (C.all fun c=>!(l.getD c true)&&(((ops[c]?).map fun o=>o.after.any fun e=>Region.binds md e&&((e.on==i)||C.contains e.on))==some true))&&((List.range ops.size).all fun f=>decide (f<m)||l.getD f true||C.contains f)
theorem qgl {l:Array Bool} {k:Nat} (h1:l.getD k true=false) (h2:l.getD k false=true):False:=by
 unfold Array.getD at h1 h2;split at h1
 ·rename_i h
  rw [dif_pos h] at h2;rw [h1] at h2;cases h2
 ·cases h1
theorem waits_spec {l:Array Bool} {i:Nat} {C:List Nat} (h:waits md m ops l i C=true) (hi:l.getD i true=false):∀ c ∈ C,c ∉ Region.ready md ops l:=by
 unfold waits at h;rw [Bool.and_eq_true] at h;intro c hc hr;have h1:=List.all_eq_true.1 h.1 c hc;rw [Bool.and_eq_true] at h1;obtain ⟨-,o,ho,hall⟩:=mem_ready.1 hr;rw [ho] at h1;simp only [Option.map_some,beq_iff_eq,Option.some.injEq] at h1;have h2:=h1.2;rw [Array.any_eq_true'] at h2;obtain ⟨e,he,q⟩:=h2;rw [Bool.and_eq_true,Bool.or_eq_true] at q;have hd:=hall e he q.1;rcases q.2 with q2 | q2
 ·rw [beq_iff_eq] at q2
  rw [q2] at hd;exact qgl hi hd
 ·have hm:e.on ∈ C:=by simpa using q2
  have h3:=List.all_eq_true.1 h.1 _ hm;rw [Bool.and_eq_true,Bool.not_eq_true'] at h3;exact qgl h3.1 hd
theorem waits_last {l:Array Bool} {i f:Nat} {C:List Nat} (h:waits md m ops l i C=true) (hf:m<=f) (hu:l.getD f true=false) (hs:f<ops.size):f ∈ C:=by
 unfold waits at h;rw [Bool.and_eq_true] at h;have:=List.all_eq_true.1 h.2 f (by simpa using hs);rw [hu,Bool.or_false,Bool.or_eq_true,decide_eq_true_eq] at this;rcases this with q | q
 ·omega
 ·simpa using q
theorem waits_step {l:Array Bool} {i j:Nat} {C:List Nat} (h:waits md m ops l i C=true) (hj:j ∉ C):waits md m ops (l.setIfInBounds j true) i C=true:=by
 unfold waits at h ⊢;rw [Bool.and_eq_true] at h ⊢;refine ⟨List.all_eq_true.2 fun c hc=>?_,List.all_eq_true.2 fun f hf=>?_⟩
 ·have h1:=List.all_eq_true.1 h.1 c hc
  have hcj:j ≠ c:=fun e=>hj (e ▸ hc);rw [getD_set_ne true hcj];exact h1
 ·have h1:=List.all_eq_true.1 h.2 f hf
  by_cases e:j=f
  ·subst e
   have:(l.setIfInBounds j true).getD j true=true:=by
    simp only [Array.getD];split
    ·simp
    ·rfl
   rw [this];simp
  ·rw [getD_set_ne true e]
   exact h1
theorem qnr {i:Nat} {oi:Oper} {v:Value} {C:List Nat} (hi:ops[i]?=some oi) (hsel:∀ (j:Nat) (o:Oper) cs b,ops[j]?=some o->o.op ≠ .select cs b) (hQ:∀ c a w,Q (.panic c) (a.put oi.dst v) w->Q (.panic c) a w) :
  ∀ (n:Nat) (l:Array Bool) (a:Act) (w:World),waits md m ops l i C=true->(∀ j oj,ops[j]?=some oj->j ≠ i->l.getD j true=false->(∀ e ∈ oj.after,Region.binds md e=true->e.on ≠ i)->oi.apart ops oj=true) ->
   i ∈ Region.ready md ops l->YL P ops oi v a w->wpK P md ops Q m n (l.setIfInBounds i true) (a.put oi.dst v) w->wpK P md ops Q m (n+1) l a w:=by
 intro n
 induction n with
 | zero =>
  intro l a w _ _ hr hy H;refine .inr fun x hx=>⟨fun h=>(by rw [h] at hr;cases hr),fun j hj=>?_⟩
  by_cases hji:j=i
  ·subst hji
   exact hy.op hi hx fun y hxy=>⟨hxy,qnq 0 _ _ _ _ (hx.trans hxy) H⟩
  ·have q:=ready_mono hj hji
   rw [(H w (Later.refl w)).1] at q;cases q
 | succ n ih =>
  intro l a w hwt hfree hr hy H;refine .inr fun x hx=>⟨fun h=>(by rw [h] at hr;cases hr),fun j hj=>?_⟩
  by_cases hji:j=i
  ·subst hji
   exact hy.op hi hx fun y hxy=>⟨hxy,qnq (n+1) _ _ _ _ (hx.trans hxy) H⟩
  ·obtain ⟨hun,oj,hoj,-⟩:=mem_ready.1 hj
   have hjC:j ∉ C:=fun hc=>waits_spec hwt (mem_ready.1 hr).1 j hc hj;rcases H with H | H
   ·have hju:(l.setIfInBounds i true).getD j true=false:=by rw [getD_set_ne true (Ne.symm hji)];exact hun
    have hjs:=(Array.getElem?_eq_some_iff.1 hoj).1;have hjm:=tailed_spec H.1 hju hjs;exact absurd (waits_last hwt hjm hun hjs) hjC
   ·have q:=qjz hoj (hfree j oj hoj hji hun (qew hr hj hoj)) (fun cs b=>hsel i oi cs b hi) (fun cs b=>hsel j oj cs b hoj) hQ hy ((H x hx).2 j (ready_mono hj hji))
    refine wpOp_mono (fun b y hb=>⟨hb.2.1,ih (l.setIfInBounds j true) b y (waits_step hwt hjC) (fun k ok hk hki hku hno=>hfree k ok hk hki ?_ hno) (ready_mono hr (Ne.symm hji)) (hb.1.later (hx.trans hb.2.1)) ?_⟩) q
    ·by_cases hjk:j=k
     ·subst hjk;exact hun
     ·rw [getD_set_ne true hjk] at hku;exact hku
    ·rw [Array.setIfInBounds_comm _ _ hji]
     exact hb.2.2
theorem qde {l:Array Bool} {a:Act} {w:World} (ht:qrp m ops l=true):∀ {n:Nat},(∀ x,Later w x->wpAny P md ops Q n l a x)->wpK P md ops Q m n l a w
 | 0,h=>h
 | _+1,h=>.inl ⟨ht,h⟩
theorem qmr {l:Array Bool} {a:Act} {w:World} (hr:Region.ready md ops l=[]) (h:∀ x,Later w x->Q .normal a x):∀ n,wpK P md ops Q m n l a w
 | 0=>fun x hx=>⟨hr,h x hx⟩
 | _+1=>.inr fun x hx=>⟨fun _=>h x hx,by rw [hr];simp⟩
theorem qas {id:Nat} {a:Act} {w:World} (m:Nat) (hm:P.follows .mixedOrders=true) (h:wpK P .any ops Q m ops.size (Array.replicate ops.size false) a w.drew):(Code.region id ops true).wp P Q a w:=
 wp_region_any hm (qlr _ _ _ _ h)
end
section
variable {P:Program} {Q:Exit->Act->World->Prop} {md:Region.Mode} {m:Nat}
theorem qkb {L r:List Oper} {i:Nat} {oi:Oper} {v:Value} {n:Nat} {l:Array Bool} {a:Act} {w:World} (hi:L.drop i=oi::r) (hs:Region.noSelect L.toArray=true) (hf:Region.free md L.toArray l i=true) (hr:(Region.ready md L.toArray l).contains i=true) (ht:waits md m L.toArray l i (clo md L.toArray l i)=true)
  (hQ:∀ c a w,Q (.panic c) (a.put oi.dst v) w->Q (.panic c) a w) (hw:Region.wanted oi (yielded L.toArray a.tmps)=true) (hy:∀ x,Later w x->(execOp a.eval oi).run P x = .ok (.value v) x)
  (h:wpK P md L.toArray Q m n (l.setIfInBounds i true) (a.put oi.dst v) w):wpK P md L.toArray Q m (n+1) l a w:=
 qnr (qat hi) (Region.noSelect_spec hs) hQ n l a w ht (Region.free_spec (qat hi) hf) (by simpa using hr) (Or.inl ⟨hw,fun x hx=>by unfold Oper.quietAt;rw [hy x hx];exact ⟨rfl,rfl⟩⟩) h
theorem qem {L r:List Oper} {i:Nat} {oi:Oper} {v:Value} {f:FuncId} {args:Array Value} {n:Nat} {l:Array Bool} {a:Act} {w:World} (hi:L.drop i=oi::r) (hs:Region.noSelect L.toArray=true) (hf:Region.free md L.toArray l i=true) (hr:(Region.ready md L.toArray l).contains i=true) (ht:waits md m L.toArray l i (clo md L.toArray l i)=true)
  (hQ:∀ c a w,Q (.panic c) (a.put oi.dst v) w->Q (.panic c) a w) (hw:Region.wanted oi (yielded L.toArray a.tmps)=true) (hy:∀ x,Later w x->(execOp a.eval oi).run P x = .ok (.enter f args) x)
  (hc:∀ x,Later w x->Calls P f args x fun e y=>e = .returned v/\Below x.heap.size x y)
  (h:wpK P md L.toArray Q m n (l.setIfInBounds i true) (a.put oi.dst v) w):wpK P md L.toArray Q m (n+1) l a w:=
 qnr (qat hi) (Region.noSelect_spec hs) hQ n l a w ht (Region.free_spec (qat hi) hf) (by simpa using hr) (Or.inl ⟨hw,fun x hx=>by unfold Oper.quietAt;rw [hy x hx];exact ⟨rfl,hc x hx⟩⟩) h
theorem wpK_v (i:Nat) {L r:List Oper} {oi:Oper} {v:Value} {n:Nat} {l:Array Bool} {a:Act} {w:World} (hi:L.drop i=oi::r) (hy:∀ x,Later w x->(execOp a.eval oi).run P x = .ok (.value v) x) (h:wpK P md L.toArray Q m n (l.setIfInBounds i true) (a.put oi.dst v) w) (hs:Region.noSelect L.toArray=true:=by kernel_rfl) (hf:Region.free md L.toArray l i=true:=by kernel_rfl) (hr:(Region.ready md L.toArray l).contains i=true:=by kernel_rfl) (ht:waits md m L.toArray l i (clo md L.toArray l i)=true:=by kernel_rfl) (hQ:∀ c a w,Q (.panic c) (a.put oi.dst v) w->Q (.panic c) a w:=by exact fun _ _ _ h=>h) (hw:Region.wanted oi (yielded L.toArray a.tmps)=true:=by rfl):wpK P md L.toArray Q m (n+1) l a w:=qkb hi hs hf hr ht hQ hw hy h
theorem qpq {L r:List Oper} {i:Nat} {oi:Oper} {n:Nat} {l:Array Bool} {a:Act} {w:World} (hr:Region.ready md L.toArray l=[i]) (hi:L.drop i=oi::r) (hw:Region.wanted oi (yielded L.toArray a.tmps)=true)
  (h:∀ x,Later w x->∃ (v:Value) (y:World),(execOp a.eval oi).run P x = .ok (.value v) y/\Later x y/\wpK P md L.toArray Q m n (l.setIfInBounds i true) (a.put oi.dst v) y):wpK P md L.toArray Q m (n+1) l a w:=by
 refine .inr fun x hx=>?_;rw [hr];refine ⟨fun h=>(by cases h),fun j hj=>?_⟩;rw [List.mem_singleton] at hj;subst hj;obtain ⟨v,y,h1,h2,h3⟩:=h x hx;unfold wpOp;rw [qat hi];dsimp only;rw [if_pos hw];refine Or.inl ?_;unfold Oper.wp;rw [h1];exact ⟨h2,h3⟩
theorem qeb {L r:List Oper} {i:Nat} {oi:Oper} {f:FuncId} {args:Array Value} {n:Nat} {l:Array Bool} {a:Act} {w:World} (hr:Region.ready md L.toArray l=[i]) (hi:L.drop i=oi::r) (hw:Region.wanted oi (yielded L.toArray a.tmps)=true)
  (hy:∀ x,Later w x->(execOp a.eval oi).run P x = .ok (.enter f args) x)
  (h:∀ x,Later w x->Calls P f args x fun e y=>∃ v,e = .returned v/\Below x.heap.size x y/\wpK P md L.toArray Q m n (l.setIfInBounds i true) (a.put oi.dst v) y):wpK P md L.toArray Q m (n+1) l a w:=by
 refine .inr fun x hx=>?_;rw [hr];refine ⟨fun h=>(by cases h),fun j hj=>?_⟩;rw [List.mem_singleton] at hj;subst hj;unfold wpOp;rw [qat hi];dsimp only;rw [if_pos hw];refine Or.inl ?_;unfold Oper.wp;rw [hy x hx];exact (h x hx).mono (by rintro e y ⟨v,rfl,h1,h2⟩;exact ⟨h1,h2⟩)
theorem qkc {L r r':List Oper} {i j:Nat} {oi oj:Oper} {f:FuncId} {args:Array Value} {n:Nat} {l:Array Bool} {a:Act} {w:World} {C:Array Value} {t:TypeId}
  (hr:Region.ready md L.toArray l=[i,j]) (hi:L.drop i=oi::r) (hj:L.drop j=oj::r') (hw:Region.wanted oi (yielded L.toArray a.tmps)=true) (hwj:Region.wanted oj (yielded L.toArray a.tmps)=true)
  (hy:∀ x,Later w x->(execOp a.eval oi).run P x = .ok (.enter f args) x) (hz:∀ x,Later w x->(execOp a.eval oj).run P x = .ok (.value (.pointer (some ⟨x.heap.size,0,none⟩))) (x.alloc (.cells C t)))
  (h1:∀ x,Later w x->Calls P f args x fun e y=>∃ v,e = .returned v/\Below x.heap.size x y/\wpK P md L.toArray Q m n (l.setIfInBounds i true) (a.put oi.dst v) y)
  (h2:∀ x,Later w x->wpK P md L.toArray Q m n (l.setIfInBounds j true) (a.put oj.dst (.pointer (some ⟨x.heap.size,0,none⟩))) (x.alloc (.cells C t))):wpK P md L.toArray Q m (n+1) l a w:=by
 refine .inr fun x hx=>?_;rw [hr];refine ⟨fun h=>(by cases h),fun k hk=>?_⟩;rw [List.mem_cons,List.mem_singleton] at hk;unfold wpOp;rcases hk with rfl | rfl
 ·rw [qat hi]
  dsimp only;rw [if_pos hw];refine Or.inl ?_;unfold Oper.wp;rw [hy x hx];exact (h1 x hx).mono (by rintro e y ⟨v,rfl,q1,q2⟩;exact ⟨q1,q2⟩)
 ·rw [qat hj]
  dsimp only;rw [if_pos hwj];refine Or.inl ?_;unfold Oper.wp;rw [hz x hx];exact ⟨zB.alloc zL _,h2 x hx⟩
theorem qns {ops:Array Oper} {i:Nat} {oi:Oper} {v:Value} (hi:ops[i]?=some oi) (hsel:∀ (j:Nat) (o:Oper) cs b,ops[j]?=some o->o.op ≠ .select cs b) (hQ:∀ c a w,Q (.panic c) (a.put oi.dst v) w->Q (.panic c) a w) :
  ∀ (n:Nat) (l:Array Bool) (a:Act) (w:World),(∀ j oj,ops[j]?=some oj->j ≠ i->l.getD j true=false->(∀ e ∈ oj.after,Region.binds md e=true->e.on ≠ i)->oi.apart ops oj=true) ->
   i ∈ Region.ready md ops l->Region.wanted oi (yielded ops a.tmps)=true->(∀ x,(execOp a.eval oi).run P x = .ok (.value v) x)->wpAny P md ops Q n (l.setIfInBounds i true) (a.put oi.dst v) w->wpAny P md ops Q (n+1) l a w:=by
 intro n
 induction n with
 | zero =>
  intro l a w _ hr hw hy H;refine ⟨fun h=>(by rw [h] at hr;cases hr),fun j hj=>?_⟩
  by_cases hji:j=i
  ·subst hji
   unfold wpOp;rw [hi];dsimp only;rw [if_pos hw];refine Or.inl ?_;unfold Oper.wp;rw [hy w];exact H
  ·have q:=ready_mono hj hji
   rw [H.1] at q;cases q
 | succ n ih =>
  intro l a w hfree hr hw hy H;refine ⟨fun h=>(by rw [h] at hr;cases hr),fun j hj=>?_⟩
  by_cases hji:j=i
  ·subst hji
   unfold wpOp;rw [hi];dsimp only;rw [if_pos hw];refine Or.inl ?_;unfold Oper.wp;rw [hy w];exact H
  ·obtain ⟨hun,oj,hoj,-⟩:=mem_ready.1 hj
   have hap:=hfree j oj hoj hji hun (qew hr hj hoj);have h3:=(Oper.apart_spec hap).2.2;have q:=qmq hoj (wpOp_putIf (S:=fun _=>False) hoj hap (fun cs b=>hsel i oi cs b hi) (fun cs b=>hsel j oj cs b hoj) hQ (Or.inl ⟨hw,fun _ hf=>hf.elim⟩) (H.2 j (ready_mono hj hji)));refine wpOp_mono ?_ q
   have step:∀ (b:Act) (y:World),execOp b.eval oi=execOp a.eval oi->Region.wanted oi (yielded ops b.tmps)=Region.wanted oi (yielded ops a.tmps)->wpAny P md ops Q n ((l.setIfInBounds i true).setIfInBounds j true) (b.put oi.dst v) y->wpAny P md ops Q (n+1) (l.setIfInBounds j true) b y:=fun b y e1 e2 hk=>by
    refine ih (l.setIfInBounds j true) b y (fun k ok hk hki hku hno=>hfree k ok hk hki ?_ hno) (ready_mono hr (Ne.symm hji)) (by rw [e2];exact hw) (fun x=>by rw [e1];exact hy x) ?_
    ·by_cases hjk:j=k
     ·subst hjk;exact hun
     ·rw [getD_set_ne true hjk] at hku;exact hku
    ·rw [Array.setIfInBounds_comm _ _ hji]
     exact hk
   rintro b y ⟨⟨u,rfl | ⟨f,rfl⟩⟩,-,hk⟩
   ·exact step _ _ (execOp_put oi (fun cs b=>hsel i oi cs b hi) a oj.dst u h3) (wanted_put oi a oj.dst u h3) hk
   ·exact step _ _ (execOp_put oi (fun cs b=>hsel i oi cs b hi) { a with defers:=f::a.defers } oj.dst u h3) (wanted_put oi { a with defers:=f::a.defers } oj.dst u h3) hk
theorem qpr {L r:List Oper} {i:Nat} {oi:Oper} {v:Value} {n:Nat} {l:Array Bool} {a:Act} {w:World} (hi:L.drop i=oi::r) (hs:Region.noSelect L.toArray=true) (hf:Region.free md L.toArray l i=true) (hr:(Region.ready md L.toArray l).contains i=true)
  (hQ:∀ c a w,Q (.panic c) (a.put oi.dst v) w->Q (.panic c) a w) (hw:Region.wanted oi (yielded L.toArray a.tmps)=true) (hy:∀ x,(execOp a.eval oi).run P x = .ok (.value v) x)
  (h:wpAny P md L.toArray Q n (l.setIfInBounds i true) (a.put oi.dst v) w):wpAny P md L.toArray Q (n+1) l a w:=
 qns (qat hi) (Region.noSelect_spec hs) hQ n l a w (Region.free_spec (qat hi) hf) (by simpa using hr) hw hy h
theorem qms {L r:List Oper} {i:Nat} {oi:Oper} {f:FuncId} {args:Array Value} {n:Nat} {l:Array Bool} {a:Act} {w:World} (hr:Region.ready md L.toArray l=[i]) (hi:L.drop i=oi::r) (hw:Region.wanted oi (yielded L.toArray a.tmps)=true) (hy:(execOp a.eval oi).run P w = .ok (.enter f args) w)
  (hd:Region.ready md L.toArray (l.setIfInBounds i true)=[]) (h:Calls P f args w fun e y=>∃ v,e = .returned v/\Q .normal (a.put oi.dst v) y):wpAny P md L.toArray Q (n+1) l a w:=by
 refine ⟨fun h=>(by rw [hr] at h;cases h),fun j hj=>?_⟩;rw [hr,List.mem_singleton] at hj;subst hj;unfold wpOp;rw [qat hi];dsimp only;rw [if_pos hw];refine Or.inl ?_;unfold Oper.wp;rw [hy];refine h.mono ?_;rintro e y ⟨v,rfl,hq⟩
 cases n with
 | zero=>exact ⟨hd,hq⟩
 | succ n=>exact ⟨fun _=>hq,by rw [hd];simp⟩
theorem qdq {L r:List Oper} {i:Nat} {oi:Oper} {n:Nat} {l:Array Bool} {a:Act} {w y:World} (hr:Region.ready md L.toArray l=[i]) (hi:L.drop i=oi::r) (hw:Region.wanted oi (yielded L.toArray a.tmps)=true) (hy:(execOp a.eval oi).run P w = .ok .skip y)
  (h:wpAny P md L.toArray Q n (l.setIfInBounds i true) (a.put oi.dst undef) y):wpAny P md L.toArray Q (n+1) l a w:=by
 refine ⟨fun h=>(by rw [hr] at h;cases h),fun j hj=>?_⟩;rw [hr,List.mem_singleton] at hj;subst hj;unfold wpOp;rw [qat hi];dsimp only;rw [if_pos hw];refine Or.inl ?_;unfold Oper.wp;rw [hy];exact h
theorem qdr {ops:Array Oper} {l:Array Bool} {a:Act} {w:World} (hr:Region.ready md ops l=[]) (h:Q .normal a w):∀ n,wpAny P md ops Q n l a w
 | 0=>⟨hr,h⟩
 | _+1=>⟨fun _=>h,by rw [hr];simp⟩
theorem qex {L r:List Oper} {i:Nat} {oi:Oper} {n:Nat} {l:Array Bool} {a:Act} {w y:World} (hr:Region.ready md L.toArray l=[i]) (hi:L.drop i=oi::r) (hw:Region.wanted oi (yielded L.toArray a.tmps)=true) (hy:(execOp a.eval oi).run P w = .ok .skip y)
  (hd:Region.ready md L.toArray (l.setIfInBounds i true)=[]) (h:Q .normal (a.put oi.dst undef) y):wpAny P md L.toArray Q (n+1) l a w:=by
 refine ⟨fun h=>(by rw [hr] at h;cases h),fun j hj=>?_⟩;rw [hr,List.mem_singleton] at hj;subst hj;unfold wpOp;rw [qat hi];dsimp only;rw [if_pos hw];refine Or.inl ?_;unfold Oper.wp;rw [hy]
 cases n with
 | zero=>exact ⟨hd,h⟩
 | succ n=>exact ⟨fun _=>h,by rw [hd];simp⟩
end
section
variable {P:Program} {ops:Array Oper} {Q:Exit->Act->World->Prop} {md:Region.Mode} {tl:Nat->Bool}
def qio (tl:Nat->Bool) (ops:Array Oper) (l:Array Bool):Bool:=(List.range ops.size).all fun j=>l.getD j true||tl j
theorem tailedD_spec {l:Array Bool} (h:qio tl ops l=true) {j:Nat} (hj:l.getD j true=false) (hs:j<ops.size):tl j=true:=by
 have:=List.all_eq_true.1 h j (by simpa using hs);rw [hj,Bool.false_or] at this;exact this
def wpD (P:Program) (md:Region.Mode) (ops:Array Oper) (Q:Exit->Act->World->Prop) (tl:Nat->Bool):Nat->Array Bool->Act->World->Prop
 | 0,l,a,w=>∀ x,Later w x->wpAny P md ops Q 0 l a x
 | n+1,l,a,w=>(qio tl ops l=true/\∀ x,Later w x->wpAny P md ops Q (n+1) l a x)\/(∀ x,Later w x->(Region.ready md ops l=[]->Q .normal a x) /\
   ∀ i ∈ Region.ready md ops l,wpOp P ops Q i (fun a' y=>Later x y/\wpD P md ops Q tl n (l.setIfInBounds i true) a' y) a x)
theorem qhl:∀ (n:Nat) (l:Array Bool) (a:Act) (w y:World),Later w y->wpD P md ops Q tl n l a w->wpD P md ops Q tl n l a y
 | 0,_,_,_,_,hy,h=>fun x hx=>h x (hy.trans hx)
 | _+1,_,_,_,_,hy,h=>h.imp (fun q=>⟨q.1,fun x hx=>q.2 x (hy.trans hx)⟩) (fun q x hx=>q x (hy.trans hx))
theorem qls:∀ (n:Nat) (l:Array Bool) (a:Act) (w:World),wpD P md ops Q tl n l a w->wpAny P md ops Q n l a w
 | 0,_,_,w,h=>h w (Later.refl w)
 | n+1,_,_,w,h=>by
  rcases h with h | h
  ·exact h.2 w (Later.refl w)
  ·exact ⟨(h w (Later.refl w)).1,fun i hi=>wpOp_mono (fun a' y hh=>qls n _ a' y hh.2) ((h w (Later.refl w)).2 i hi)⟩
def qfm (md:Region.Mode) (tl:Nat->Bool) (ops:Array Oper) (l:Array Bool) (i:Nat) (C:List Nat):Bool:=
 (C.all fun c=>!(l.getD c true)&&(((ops[c]?).map fun o=>o.after.any fun e=>Region.binds md e&&((e.on==i)||C.contains e.on))==some true))&&((List.range ops.size).all fun f=>!(tl f)||l.getD f true||C.contains f)
theorem waitsD_spec {l:Array Bool} {i:Nat} {C:List Nat} (h:qfm md tl ops l i C=true) (hi:l.getD i true=false):∀ c ∈ C,c ∉ Region.ready md ops l:=by
 unfold qfm at h;rw [Bool.and_eq_true] at h;intro c hc hr;have h1:=List.all_eq_true.1 h.1 c hc;rw [Bool.and_eq_true] at h1;obtain ⟨-,o,ho,hall⟩:=mem_ready.1 hr;rw [ho] at h1;simp only [Option.map_some,beq_iff_eq,Option.some.injEq] at h1;have h2:=h1.2;rw [Array.any_eq_true'] at h2;obtain ⟨e,he,q⟩:=h2;rw [Bool.and_eq_true,Bool.or_eq_true] at q;have hd:=hall e he q.1;rcases q.2 with q2 | q2
 ·rw [beq_iff_eq] at q2
  rw [q2] at hd;exact qgl hi hd
 ·have hm:e.on ∈ C:=by simpa using q2
  have h3:=List.all_eq_true.1 h.1 _ hm;rw [Bool.and_eq_true,Bool.not_eq_true'] at h3;exact qgl h3.1 hd
theorem waitsD_last {l:Array Bool} {i f:Nat} {C:List Nat} (h:qfm md tl ops l i C=true) (hf:tl f=true) (hu:l.getD f true=false) (hs:f<ops.size):f ∈ C:=by
 unfold qfm at h;rw [Bool.and_eq_true] at h;have:=List.all_eq_true.1 h.2 f (by simpa using hs);rw [hu,Bool.or_false,hf] at this
 simpa using this
theorem waitsD_step {l:Array Bool} {i j:Nat} {C:List Nat} (h:qfm md tl ops l i C=true) (hj:j ∉ C):qfm md tl ops (l.setIfInBounds j true) i C=true:=by
 unfold qfm at h ⊢;rw [Bool.and_eq_true] at h ⊢;refine ⟨List.all_eq_true.2 fun c hc=>?_,List.all_eq_true.2 fun f hf=>?_⟩
 ·have h1:=List.all_eq_true.1 h.1 c hc
  have hcj:j ≠ c:=fun e=>hj (e ▸ hc);rw [getD_set_ne true hcj];exact h1
 ·have h1:=List.all_eq_true.1 h.2 f hf
  by_cases e:j=f
  ·subst e
   have:(l.setIfInBounds j true).getD j true=true:=by
    simp only [Array.getD];split
    ·simp
    ·rfl
   rw [this];simp
  ·rw [getD_set_ne true e]
   exact h1
theorem qnt {i:Nat} {oi:Oper} {v:Value} {C:List Nat} (hi:ops[i]?=some oi) (hsel:∀ (j:Nat) (o:Oper) cs b,ops[j]?=some o->o.op ≠ .select cs b) (hQ:∀ c a w,Q (.panic c) (a.put oi.dst v) w->Q (.panic c) a w) :
  ∀ (n:Nat) (l:Array Bool) (a:Act) (w:World),qfm md tl ops l i C=true->(∀ j oj,ops[j]?=some oj->j ≠ i->l.getD j true=false->(∀ e ∈ oj.after,Region.binds md e=true->e.on ≠ i)->oi.apart ops oj=true) ->
   i ∈ Region.ready md ops l->YL P ops oi v a w->wpD P md ops Q tl n (l.setIfInBounds i true) (a.put oi.dst v) w->wpD P md ops Q tl (n+1) l a w:=by
 intro n
 induction n with
 | zero =>
  intro l a w _ _ hr hy H;refine .inr fun x hx=>⟨fun h=>(by rw [h] at hr;cases hr),fun j hj=>?_⟩
  by_cases hji:j=i
  ·subst hji
   exact hy.op hi hx fun y hxy=>⟨hxy,qhl 0 _ _ _ _ (hx.trans hxy) H⟩
  ·have q:=ready_mono hj hji
   rw [(H w (Later.refl w)).1] at q;cases q
 | succ n ih =>
  intro l a w hwt hfree hr hy H;refine .inr fun x hx=>⟨fun h=>(by rw [h] at hr;cases hr),fun j hj=>?_⟩
  by_cases hji:j=i
  ·subst hji
   exact hy.op hi hx fun y hxy=>⟨hxy,qhl (n+1) _ _ _ _ (hx.trans hxy) H⟩
  ·obtain ⟨hun,oj,hoj,-⟩:=mem_ready.1 hj
   have hjC:j ∉ C:=fun hc=>waitsD_spec hwt (mem_ready.1 hr).1 j hc hj;rcases H with H | H
   ·have hju:(l.setIfInBounds i true).getD j true=false:=by rw [getD_set_ne true (Ne.symm hji)];exact hun
    have hjs:=(Array.getElem?_eq_some_iff.1 hoj).1;have hjm:=tailedD_spec H.1 hju hjs;exact absurd (waitsD_last hwt hjm hun hjs) hjC
   ·have q:=qjz hoj (hfree j oj hoj hji hun (qew hr hj hoj)) (fun cs b=>hsel i oi cs b hi) (fun cs b=>hsel j oj cs b hoj) hQ hy ((H x hx).2 j (ready_mono hj hji))
    refine wpOp_mono (fun b y hb=>⟨hb.2.1,ih (l.setIfInBounds j true) b y (waitsD_step hwt hjC) (fun k ok hk hki hku hno=>hfree k ok hk hki ?_ hno) (ready_mono hr (Ne.symm hji)) (hb.1.later (hx.trans hb.2.1)) ?_⟩) q
    ·by_cases hjk:j=k
     ·subst hjk;exact hun
     ·rw [getD_set_ne true hjk] at hku;exact hku
    ·rw [Array.setIfInBounds_comm _ _ hji]
     exact hb.2.2
theorem qen {l:Array Bool} {a:Act} {w:World} (ht:qio tl ops l=true):∀ {n:Nat},(∀ x,Later w x->wpAny P md ops Q n l a x)->wpD P md ops Q tl n l a w
 | 0,h=>h
 | _+1,h=>.inl ⟨ht,h⟩
theorem wpD_done {l:Array Bool} {a:Act} {w:World} (hr:Region.ready md ops l=[]) (h:∀ x,Later w x->Q .normal a x):∀ n,wpD P md ops Q tl n l a w
 | 0=>fun x hx=>⟨hr,h x hx⟩
 | _+1=>.inr fun x hx=>⟨fun _=>h x hx,by rw [hr];simp⟩
theorem qds {id:Nat} {a:Act} {w:World} (tl:Nat->Bool) (hm:P.follows .mixedOrders=true) (h:wpD P .any ops Q tl ops.size (Array.replicate ops.size false) a w.drew):(Code.region id ops true).wp P Q a w:=
 wp_region_any hm (qls _ _ _ _ h)
end
section
variable {P:Program} {Q:Exit->Act->World->Prop} {md:Region.Mode} {tl:Nat->Bool}
theorem wpD_val {L r:List Oper} {i:Nat} {oi:Oper} {v:Value} {n:Nat} {l:Array Bool} {a:Act} {w:World} (hi:L.drop i=oi::r) (hs:Region.noSelect L.toArray=true) (hf:Region.free md L.toArray l i=true) (hr:(Region.ready md L.toArray l).contains i=true) (ht:qfm md tl L.toArray l i (clo md L.toArray l i)=true)
  (hQ:∀ c a w,Q (.panic c) (a.put oi.dst v) w->Q (.panic c) a w) (hw:Region.wanted oi (yielded L.toArray a.tmps)=true) (hy:∀ x,Later w x->(execOp a.eval oi).run P x = .ok (.value v) x)
  (h:wpD P md L.toArray Q tl n (l.setIfInBounds i true) (a.put oi.dst v) w):wpD P md L.toArray Q tl (n+1) l a w:=
 qnt (qat hi) (Region.noSelect_spec hs) hQ n l a w ht (Region.free_spec (qat hi) hf) (by simpa using hr) (Or.inl ⟨hw,fun x hx=>by unfold Oper.quietAt;rw [hy x hx];exact ⟨rfl,rfl⟩⟩) h
theorem wpD_call {L r:List Oper} {i:Nat} {oi:Oper} {v:Value} {f:FuncId} {args:Array Value} {n:Nat} {l:Array Bool} {a:Act} {w:World} (hi:L.drop i=oi::r) (hs:Region.noSelect L.toArray=true) (hf:Region.free md L.toArray l i=true) (hr:(Region.ready md L.toArray l).contains i=true) (ht:qfm md tl L.toArray l i (clo md L.toArray l i)=true)
  (hQ:∀ c a w,Q (.panic c) (a.put oi.dst v) w->Q (.panic c) a w) (hw:Region.wanted oi (yielded L.toArray a.tmps)=true) (hy:∀ x,Later w x->(execOp a.eval oi).run P x = .ok (.enter f args) x)
  (hc:∀ x,Later w x->Calls P f args x fun e y=>e = .returned v/\Below x.heap.size x y)
  (h:wpD P md L.toArray Q tl n (l.setIfInBounds i true) (a.put oi.dst v) w):wpD P md L.toArray Q tl (n+1) l a w:=
 qnt (qat hi) (Region.noSelect_spec hs) hQ n l a w ht (Region.free_spec (qat hi) hf) (by simpa using hr) (Or.inl ⟨hw,fun x hx=>by unfold Oper.quietAt;rw [hy x hx];exact ⟨rfl,hc x hx⟩⟩) h
theorem qps {L r:List Oper} {i:Nat} {oi:Oper} {n:Nat} {l:Array Bool} {a:Act} {w:World} (hr:Region.ready md L.toArray l=[i]) (hi:L.drop i=oi::r) (hw:Region.wanted oi (yielded L.toArray a.tmps)=true)
  (h:∀ x,Later w x->∃ (v:Value) (y:World),(execOp a.eval oi).run P x = .ok (.value v) y/\Later x y/\wpD P md L.toArray Q tl n (l.setIfInBounds i true) (a.put oi.dst v) y):wpD P md L.toArray Q tl (n+1) l a w:=by
 refine .inr fun x hx=>?_;rw [hr];refine ⟨fun h=>(by cases h),fun j hj=>?_⟩;rw [List.mem_singleton] at hj;subst hj;obtain ⟨v,y,h1,h2,h3⟩:=h x hx;unfold wpOp;rw [qat hi];dsimp only;rw [if_pos hw];refine Or.inl ?_;unfold Oper.wp;rw [h1];exact ⟨h2,h3⟩
theorem qbx {L r:List Oper} {i:Nat} {oi:Oper} {f:FuncId} {args:Array Value} {n:Nat} {l:Array Bool} {a:Act} {w:World} (hr:Region.ready md L.toArray l=[i]) (hi:L.drop i=oi::r) (hw:Region.wanted oi (yielded L.toArray a.tmps)=true)
  (hy:∀ x,Later w x->(execOp a.eval oi).run P x = .ok (.enter f args) x)
  (h:∀ x,Later w x->Calls P f args x fun e y=>∃ v,e = .returned v/\Below x.heap.size x y/\wpD P md L.toArray Q tl n (l.setIfInBounds i true) (a.put oi.dst v) y):wpD P md L.toArray Q tl (n+1) l a w:=by
 refine .inr fun x hx=>?_;rw [hr];refine ⟨fun h=>(by cases h),fun j hj=>?_⟩;rw [List.mem_singleton] at hj;subst hj;unfold wpOp;rw [qat hi];dsimp only;rw [if_pos hw];refine Or.inl ?_;unfold Oper.wp;rw [hy x hx];exact (h x hx).mono (by rintro e y ⟨v,rfl,h1,h2⟩;exact ⟨h1,h2⟩)
theorem qec {L r r':List Oper} {i j:Nat} {oi oj:Oper} {f:FuncId} {args:Array Value} {n:Nat} {l:Array Bool} {a:Act} {w:World} {C:Array Value} {t:TypeId}
  (hr:Region.ready md L.toArray l=[i,j]) (hi:L.drop i=oi::r) (hj:L.drop j=oj::r') (hw:Region.wanted oi (yielded L.toArray a.tmps)=true) (hwj:Region.wanted oj (yielded L.toArray a.tmps)=true)
  (hy:∀ x,Later w x->(execOp a.eval oi).run P x = .ok (.enter f args) x) (hz:∀ x,Later w x->(execOp a.eval oj).run P x = .ok (.value (.pointer (some ⟨x.heap.size,0,none⟩))) (x.alloc (.cells C t)))
  (h1:∀ x,Later w x->Calls P f args x fun e y=>∃ v,e = .returned v/\Below x.heap.size x y/\wpD P md L.toArray Q tl n (l.setIfInBounds i true) (a.put oi.dst v) y)
  (h2:∀ x,Later w x->wpD P md L.toArray Q tl n (l.setIfInBounds j true) (a.put oj.dst (.pointer (some ⟨x.heap.size,0,none⟩))) (x.alloc (.cells C t))):wpD P md L.toArray Q tl (n+1) l a w:=by
 refine .inr fun x hx=>?_;rw [hr];refine ⟨fun h=>(by cases h),fun k hk=>?_⟩;rw [List.mem_cons,List.mem_singleton] at hk;unfold wpOp;rcases hk with rfl | rfl
 ·rw [qat hi]
  dsimp only;rw [if_pos hw];refine Or.inl ?_;unfold Oper.wp;rw [hy x hx];exact (h1 x hx).mono (by rintro e y ⟨v,rfl,q1,q2⟩;exact ⟨q1,q2⟩)
 ·rw [qat hj]
  dsimp only;rw [if_pos hwj];refine Or.inl ?_;unfold Oper.wp;rw [hz x hx];exact ⟨zB.alloc zL _,h2 x hx⟩
theorem wpD_purely {ops:Array Oper} {i:Nat} {oi:Oper} {v:Value} (hi:ops[i]?=some oi) (hti:tl i=true) (hsel:∀ (j:Nat) (o:Oper) cs b,ops[j]?=some o->o.op ≠ .select cs b) (hQ:∀ c a w,Q (.panic c) (a.put oi.dst v) w->Q (.panic c) a w) :
  ∀ (n:Nat) (l:Array Bool) (a:Act) (w:World),(∀ j oj,ops[j]?=some oj->j ≠ i->l.getD j true=false->(∀ e ∈ oj.after,Region.binds md e=true->e.on ≠ i)->oi.apart ops oj=true) ->
   i ∈ Region.ready md ops l->Region.wanted oi (yielded ops a.tmps)=true->(∀ x,(execOp a.eval oi).run P x = .ok (.value v) x)->wpD P md ops Q tl n (l.setIfInBounds i true) (a.put oi.dst v) w->wpD P md ops Q tl (n+1) l a w:=by
 have htail:∀ {l:Array Bool},qio tl ops (l.setIfInBounds i true)=true->qio tl ops l=true:=fun {l} h=>by
  unfold qio at h ⊢;refine List.all_eq_true.2 fun j hj=>?_
  by_cases e:i=j
  ·subst e
   rw [hti,Bool.or_true]
  ·have:=List.all_eq_true.1 h j hj
   rw [getD_set_ne true e] at this;exact this
 intro n
 induction n with
 | zero =>
  intro l a w _ hr hw hy H;refine .inr fun x hx=>⟨fun h=>(by rw [h] at hr;cases hr),fun j hj=>?_⟩
  by_cases hji:j=i
  ·subst hji
   have hyl:YL P ops oi v a w:=Or.inl ⟨hw,fun x _=>by unfold Oper.quietAt;rw [hy x];exact ⟨rfl,rfl⟩⟩;exact hyl.op hi hx fun y hxy=>⟨hxy,qhl 0 _ _ _ _ (hx.trans hxy) H⟩
  ·have q:=ready_mono hj hji
   rw [(H w (Later.refl w)).1] at q;cases q
 | succ n ih =>
  intro l a w hfree hr hw hy H;rcases H with H | H
  ·exact .inl ⟨htail H.1,fun x hx=>qns hi hsel hQ _ l a x hfree hr hw hy (H.2 x hx)⟩
  ·have hyl:YL P ops oi v a w:=Or.inl ⟨hw,fun x _=>by unfold Oper.quietAt;rw [hy x];exact ⟨rfl,rfl⟩⟩
   refine .inr fun x hx=>⟨fun h=>(by rw [h] at hr;cases hr),fun j hj=>?_⟩
   by_cases hji:j=i
   ·subst hji
    exact hyl.op hi hx fun y hxy=>⟨hxy,qhl (n+1) _ _ _ _ (hx.trans hxy) (.inr H)⟩
   ·obtain ⟨hun,oj,hoj,-⟩:=mem_ready.1 hj
    have hap:=hfree j oj hoj hji hun (qew hr hj hoj);have h3:=(Oper.apart_spec hap).2.2;have q:=qmq hoj (wpOp_putIf (S:=fun _=>False) hoj hap (fun cs b=>hsel i oi cs b hi) (fun cs b=>hsel j oj cs b hoj) hQ (Or.inl ⟨hw,fun _ hf=>hf.elim⟩) ((H x hx).2 j (ready_mono hj hji)));refine wpOp_mono ?_ q
    have step:∀ (b:Act) (y:World),Later x y->execOp b.eval oi=execOp a.eval oi->Region.wanted oi (yielded ops b.tmps)=Region.wanted oi (yielded ops a.tmps)->wpD P md ops Q tl n ((l.setIfInBounds i true).setIfInBounds j true) (b.put oi.dst v) y->Later x y/\wpD P md ops Q tl (n+1) (l.setIfInBounds j true) b y:=fun b y hl e1 e2 hk=>by
     refine ⟨hl,ih (l.setIfInBounds j true) b y (fun k ok hk hki hku hno=>hfree k ok hk hki ?_ hno) (ready_mono hr (Ne.symm hji)) (by rw [e2];exact hw) (fun x=>by rw [e1];exact hy x) ?_⟩
     ·by_cases hjk:j=k
      ·subst hjk;exact hun
      ·rw [getD_set_ne true hjk] at hku;exact hku
     ·rw [Array.setIfInBounds_comm _ _ hji]
      exact hk
    rintro b y ⟨⟨u,rfl | ⟨f,rfl⟩⟩,-,hl,hk⟩
    ·exact step _ _ hl (execOp_put oi (fun cs b=>hsel i oi cs b hi) a oj.dst u h3) (wanted_put oi a oj.dst u h3) hk
    ·exact step _ _ hl (execOp_put oi (fun cs b=>hsel i oi cs b hi) { a with defers:=f::a.defers } oj.dst u h3) (wanted_put oi { a with defers:=f::a.defers } oj.dst u h3) hk
theorem wpD_pure {L r:List Oper} {i:Nat} {oi:Oper} {v:Value} {n:Nat} {l:Array Bool} {a:Act} {w:World} (hi:L.drop i=oi::r) (hti:tl i=true) (hs:Region.noSelect L.toArray=true) (hf:Region.free md L.toArray l i=true) (hr:(Region.ready md L.toArray l).contains i=true)
  (hQ:∀ c a w,Q (.panic c) (a.put oi.dst v) w->Q (.panic c) a w) (hw:Region.wanted oi (yielded L.toArray a.tmps)=true) (hy:∀ x,(execOp a.eval oi).run P x = .ok (.value v) x)
  (h:wpD P md L.toArray Q tl n (l.setIfInBounds i true) (a.put oi.dst v) w):wpD P md L.toArray Q tl (n+1) l a w:=
 wpD_purely (qat hi) hti (Region.noSelect_spec hs) hQ n l a w (Region.free_spec (qat hi) hf) (by simpa using hr) hw hy h
end
theorem wpD_v {P:Program} {Q:Exit->Act->World->Prop} {md:Region.Mode} {tl:Nat->Bool} (i:Nat) {L r:List Oper} {oi:Oper} {v:Value} {n:Nat} {l:Array Bool} {a:Act} {w:World} (hi:L.drop i=oi::r) (hy:∀ x,Later w x->(execOp a.eval oi).run P x = .ok (.value v) x) (h:wpD P md L.toArray Q tl n (l.setIfInBounds i true) (a.put oi.dst v) w)
  (hs:Region.noSelect L.toArray=true:=by kernel_rfl) (hf:Region.free md L.toArray l i=true:=by kernel_rfl) (hr:(Region.ready md L.toArray l).contains i=true:=by kernel_rfl) (ht:qfm md tl L.toArray l i (clo md L.toArray l i)=true:=by kernel_rfl)
  (hQ:∀ c a w,Q (.panic c) (a.put oi.dst v) w->Q (.panic c) a w:=by exact fun _ _ _ h=>h) (hw:Region.wanted oi (yielded L.toArray a.tmps)=true:=by rfl):wpD P md L.toArray Q tl (n+1) l a w:=wpD_val hi hs hf hr ht hQ hw hy h
theorem wpD_p {P:Program} {Q:Exit->Act->World->Prop} {md:Region.Mode} {tl:Nat->Bool} (i:Nat) {L r:List Oper} {oi:Oper} {v:Value} {n:Nat} {l:Array Bool} {a:Act} {w:World} (hi:L.drop i=oi::r) (hy:∀ x,(execOp a.eval oi).run P x = .ok (.value v) x) (h:wpD P md L.toArray Q tl n (l.setIfInBounds i true) (a.put oi.dst v) w)
  (hti:tl i=true:=by kernel_rfl) (hs:Region.noSelect L.toArray=true:=by kernel_rfl) (hf:Region.free md L.toArray l i=true:=by kernel_rfl) (hr:(Region.ready md L.toArray l).contains i=true:=by kernel_rfl)
  (hQ:∀ c a w,Q (.panic c) (a.put oi.dst v) w->Q (.panic c) a w:=by exact fun _ _ _ h=>h) (hw:Region.wanted oi (yielded L.toArray a.tmps)=true:=by rfl):wpD P md L.toArray Q tl (n+1) l a w:=wpD_pure hi hti hs hf hr hQ hw hy h
theorem wpD_c {P:Program} {Q:Exit->Act->World->Prop} {md:Region.Mode} {tl:Nat->Bool} (i:Nat) {L r:List Oper} {oi:Oper} {v:Value} {f:FuncId} {args:Array Value} {n:Nat} {l:Array Bool} {a:Act} {w:World} (hi:L.drop i=oi::r) (hc:∀ x,Later w x->Calls P f args x fun e y=>e = .returned v/\Below x.heap.size x y) (hy:∀ x,Later w x->(execOp a.eval oi).run P x = .ok (.enter f args) x) (h:wpD P md L.toArray Q tl n (l.setIfInBounds i true) (a.put oi.dst v) w)
  (hs:Region.noSelect L.toArray=true:=by kernel_rfl) (hf:Region.free md L.toArray l i=true:=by kernel_rfl) (hr:(Region.ready md L.toArray l).contains i=true:=by kernel_rfl) (ht:qfm md tl L.toArray l i (clo md L.toArray l i)=true:=by kernel_rfl)
  (hQ:∀ c a w,Q (.panic c) (a.put oi.dst v) w->Q (.panic c) a w:=by exact fun _ _ _ h=>h) (hw:Region.wanted oi (yielded L.toArray a.tmps)=true:=by rfl):wpD P md L.toArray Q tl (n+1) l a w:=wpD_call hi hs hf hr ht hQ hw hy hc h
theorem wpA_v {P:Program} {Q:Exit->Act->World->Prop} {md:Region.Mode} (i:Nat) {L r:List Oper} {oi:Oper} {v:Value} {n:Nat} {l:Array Bool} {a:Act} {w:World} (hi:L.drop i=oi::r) (hy:∀ x,(execOp a.eval oi).run P x = .ok (.value v) x) (h:wpAny P md L.toArray Q n (l.setIfInBounds i true) (a.put oi.dst v) w)
  (hs:Region.noSelect L.toArray=true:=by kernel_rfl) (hf:Region.free md L.toArray l i=true:=by kernel_rfl) (hr:(Region.ready md L.toArray l).contains i=true:=by kernel_rfl)
  (hQ:∀ c a w,Q (.panic c) (a.put oi.dst v) w->Q (.panic c) a w:=by exact fun _ _ _ h=>h) (hw:Region.wanted oi (yielded L.toArray a.tmps)=true:=by rfl):wpAny P md L.toArray Q (n+1) l a w:=qpr hi hs hf hr hQ hw hy h
theorem SL.later {w0 W x:World} {S:List Str} (h:SL w0 W S) (hx:Later W.drew x):SL w0 x S:=h.below (Below.trans zD hx)
theorem SL.nm {w0 W:World} {S:List Str} (h:SL w0 W S):∃ B,B=S/\SL w0 W B:=⟨S,rfl,h⟩
theorem SL.hi {w0 W:World} {S:List Str} {s:Str} (h:SL w0 W S) (i:Nat) (hs:S[i]?=some s):s.hi<=W.heap.size:=(h.is _ (List.mem_of_getElem? hs)).2.2.2
end
end Go.Proofs.YtackbhpgdohimaaGreatDoor
namespace Go.Proofs.YtackbhpgdohimaaGreatDoor.W
abbrev B32:=BitVec 32
def poly:B32:=3558460437#32
def st (x:B32):B32:=(x >>> 1) ^^^ (if x.getLsbD 0 then poly else 0#32)
def st4 (x:B32):B32:=st (st (st (st x)))
def st8 (x:B32):B32:=st4 (st4 x)
theorem qqv (x y:B32):st (x ^^^ y)=st x ^^^ st y:=by
 unfold st;rw [BitVec.getLsbD_xor,BitVec.ushiftRight_xor_distrib];generalize x >>> 1=a;generalize y >>> 1=b;generalize poly=p;cases x.getLsbD 0 <;> cases y.getLsbD 0 <;> (ext i hi;simp;try (cases a[i] <;> cases b[i] <;> cases p[i] <;> rfl))
theorem st4_xor (x y:B32):st4 (x ^^^ y)=st4 x ^^^ st4 y:=by unfold st4;rw [qqv,qqv,qqv,qqv]
theorem qmz (x:B32) (h:x.getLsbD 0=false):st x=x >>> 1:=by unfold st;rw [h];simp
theorem st4_high (x:B32) (h0:x.getLsbD 0=false) (h1:x.getLsbD 1=false) (h2:x.getLsbD 2=false) (h3:x.getLsbD 3=false):st4 x=x >>> 4:=by
 unfold st4;rw [qmz x h0,qmz (x >>> 1) (by simpa using h1),qmz (x >>> 1 >>> 1) (by simpa [BitVec.getLsbD_ushiftRight] using h2),qmz (x >>> 1 >>> 1 >>> 1) (by simpa [BitVec.getLsbD_ushiftRight] using h3)];simp [<-BitVec.shiftRight_add]
def tab (n:Nat):Nat:=(st4 (BitVec.ofNat 32 n)).toNat
theorem tab_all:(List.range 16).map tab=[0,1166650509,2333301018,3466261911,3189058079,4221339282,889615109,1888477064,3558460437,2442158232,1594529039,444807554,1779230218,797264519,3776954128,2761298845]:=by decide +kernel
theorem st4_low (x:B32):st4 x=(x >>> 4) ^^^ st4 (x &&& 15#32):=by
 have e:x=(x &&& ~~~(15#32)) ^^^ (x &&& 15#32):=by
  ext i hi;simp only [BitVec.getElem_xor,BitVec.getElem_and,BitVec.getElem_not]
  cases x[i] <;> cases (15#32)[i] <;> rfl
 have h:st4 (x &&& ~~~(15#32))=x >>> 4:=by
  rw [st4_high]
  ·ext i hi
   simp only [BitVec.getElem_ushiftRight,BitVec.getLsbD_and,BitVec.getLsbD_not]
   by_cases h:4+i<32
   ·have:(15#32).getLsbD (4+i)=false:=by
     have:i<28:=by omega
     have hall:∀ j:Fin 28,(15#32).getLsbD (4+j.val)=false:=by decide
     exact hall ⟨i,this⟩
    simp only [this,h];simp [BitVec.getLsbD_eq_getElem h]
   ·simp [BitVec.getLsbD_of_ge x (4+i) (by omega)]
  all_goals simp
 have h2:=st4_xor (x &&& ~~~(15#32)) (x &&& 15#32);rw [h] at h2;rw [<-e] at h2;exact h2
def stN:Nat->B32->B32
 | 0,z=>z
 | j+1,z=>st (stN j z)
theorem st8_N (z:B32):stN 8 z=st8 z:=rfl
def by32 (b:UInt8):B32:=BitVec.ofNat 32 b.toNat
def crc (s:B32) (l:List UInt8):B32:=l.foldl (fun s b=>st8 (s ^^^ by32 b)) s
theorem crc_snoc (s:B32) (l:List UInt8) (b:UInt8):crc s (l++[b])=st8 (crc s l ^^^ by32 b):=by simp [crc]
def four (x:B32):List UInt8:=[UInt8.ofNat (x.toNat / 16777216),UInt8.ofNat (x.toNat / 65536),UInt8.ofNat (x.toNat / 256),UInt8.ofNat x.toNat]
end Go.Proofs.YtackbhpgdohimaaGreatDoor.W
namespace Go.Proofs.YtackbhpgdohimaaGreatDoor
set_option maxRecDepth 100000
set_option maxHeartbeats 16000000
open Go.RowKit
attribute [local go_sem ↓] Go.wp_at_zero Go.wp_at_succ
section
open W (B32)
abbrev u32 (x:B32):Value:=.int .u32 (x.toNat:Int)
theorem u32_lt (x:B32):(0:Int)<=(x.toNat:Int)/\(x.toNat:Int)<4294967296:=⟨by omega,by have:=x.isLt;omega⟩
theorem qib (x:B32):IntKind.u32.wrap (x.toNat:Int)=(x.toNat:Int):=by
 have:=x.isLt;simp [IntKind.wrap,IntKind.bits,IntKind.signed];omega
theorem qqw (x:B32):BitVec.ofInt IntKind.u32.bits (x.toNat:Int)=x:=by
 show BitVec.ofInt 32 (x.toNat:Int)=x
 simp
theorem u32_xor (x y:B32):bits .xor .u32 (x.toNat:Int) (y.toNat:Int)=((x ^^^ y).toNat:Int):=by
 unfold bits;simp only [qqw];exact qib (x ^^^ y)
theorem u32_and (x y:B32):bits .and .u32 (x.toNat:Int) (y.toNat:Int)=((x &&& y).toNat:Int):=by
 unfold bits;simp only [qqw];exact qib (x &&& y)
theorem qsf (x:B32) (n:Nat):(x.toNat:Int) / 2 ^ n=((x >>> n).toNat:Int):=by
 rw [BitVec.toNat_ushiftRight,Nat.shiftRight_eq_div_pow]
 norm_cast
theorem qqx (y:B32) (b:UInt8):bits .xor .u32 (y.toNat:Int) (b.toNat:Int)=((y ^^^ W.by32 b).toNat:Int):=by
 have h:=u32_xor y (W.by32 b);have e:(W.by32 b).toNat=b.toNat:=by have:=b.toNat_lt;simp [W.by32]
 rw [e] at h;exact h
theorem u32_odd (y:B32):(y.toNat:Int).tmod 2=if y.getLsbD 0 then 1 else 0:=by
 rw [Int.tmod_eq_emod_of_nonneg (by omega)]
 have e:y.getLsbD 0=decide (y.toNat % 2=1):=by
  rw [BitVec.getLsbD,Nat.testBit_zero]
 rw [e]
 by_cases h:y.toNat % 2=1 <;> simp [h] <;> omega
theorem u32_half (y:B32):(y.toNat:Int).tdiv 2=((y >>> 1).toNat:Int):=by
 rw [Int.tdiv_eq_ediv_of_nonneg (by omega)];exact qsf y 1
theorem u32_poly (y:B32):bits .xor .u32 ((y >>> 1).toNat:Int) 3558460437=(((y >>> 1) ^^^ W.poly).toNat:Int):=u32_xor (y >>> 1) W.poly
end
end Go.Proofs.YtackbhpgdohimaaGreatDoor
namespace Go.Proofs.YtackbhpgdohimaaGreatDoor.W
open Go.PlainAid (bt)
def hfI (x:Int):Int:=if x<10 then 48+x else 87+x
def hf (n:Nat):UInt8:=UInt8.ofNat (hfI n).toNat
def firstK (s:ByteArray) (k:Nat):List UInt8:=s.data.toList.take k
theorem firstK_all (s:ByteArray) (k:Nat) (h:s.size<=k):firstK s k=s.data.toList:=by
 have e:s.data.size=s.size:=rfl;unfold firstK;exact List.take_of_length_le (by simp;omega)
theorem firstK_step (s:ByteArray) (k:Nat) (h:k<s.size):∃ b:UInt8,firstK s (k+1)=firstK s k++[b]/\bt s k=(b.toNat:Int):=by
 refine ⟨s[k],?_,?_⟩
 ·unfold firstK;rw [List.take_succ_eq_append_getElem (by simpa using h)];rfl
 ·unfold bt;rw [dif_pos h]
end Go.Proofs.YtackbhpgdohimaaGreatDoor.W
namespace Go.Proofs.YtackbhpgdohimaaGreatDoor
set_option maxRecDepth 100000
set_option maxHeartbeats 16000000
open Go.RowKit
attribute [local go_sem ↓] Go.wp_at_zero Go.wp_at_succ
section
open Go.PlainAid (bt)
theorem qnu (s:ByteArray) (k:Nat) (h:k<s.size) (w:World) :
  (Instr.index 9 (.string s) (.int .i64 (k:Int))).run Tryz.prog w = .ok (.int .u8 (bt s k)) w:=by
 have hb:=Go.PlainAid.get_bt s k h;rw [run_index_string _ 9 s .i64 k Tryz.underlying9,dif_pos ⟨by omega,by omega⟩,<-hb]
 rfl
end
section
open W (B32)
open Go.PlainAid (bt)
variable {w:World}
def sumTab:List Int:=[0,1166650509,2333301018,3466261911,3189058079,4221339282,889615109,1888477064,3558460437,2442158232,1594529039,444807554,1779230218,797264519,3776954128,2761298845]
abbrev SumTab (w:World):Prop:=Lib.TabIs Tryz.prog w "loop.example/g00197/impl.sumSteps" .u32 sumTab
theorem gSum:Tryz.prog.globalNamed "loop.example/g00197/impl.sumSteps" = some 0:=by kernel_rfl
theorem SumTab.stays {w w':World} (h:SumTab w) (hb:Below w.heap.size w w'):SumTab w':=Joins.tab_stays gSum h hb zL
theorem sum_cell (h:SumTab w) (x:B32):w.cell? ⟨0,(x &&& 15#32).toNat,none⟩=some (u32 (W.st4 (x &&& 15#32))):=by
 have hn:(x &&& 15#32).toNat<16:=by
  rw [BitVec.toNat_and];exact Nat.lt_of_le_of_lt Nat.and_le_right (by decide)
 have hc:=World.var?_cell gSum h (x &&& 15#32).toNat
 have e:W.tab (x &&& 15#32).toNat=(W.st4 (x &&& 15#32)).toNat:=by
  unfold W.tab;rw [BitVec.ofNat_toNat];simp
 have ht:=congrArg (·[(x &&& 15#32).toNat]?) W.tab_all;simp only [List.getElem?_map,List.getElem?_range hn,Option.map_some] at ht;rw [hc,show u32 (W.st4 (x &&& 15#32)) = .int .u32 ((W.tab (x &&& 15#32).toNat:Nat):Int) by rw [e]];generalize (x &&& 15#32).toNat=n at hn ht;generalize W.tab n=m at ht
 match n,hn with
 | 0,_ | 1,_ | 2,_ | 3,_ | 4,_ | 5,_ | 6,_ | 7,_ | 8,_ | 9,_ | 10,_ | 11,_ | 12,_ | 13,_ | 14,_ | 15,_=>simp at ht;subst ht;rfl
theorem fourSteps_plain (a q v r:Int) (n:Nat) (w:World) (h1:bits BinOp.and IntKind.u32 a 15=(n:Int)) (h2:a / 16=q) (hn:(n:Int)<16) (hc:w.cell? ⟨0,n,none⟩=some (.int .u32 v))
  (h3:bits BinOp.xor IntKind.u32 q v=r):Calls Tryz.prog 200 #[.int .u32 a] w fun e w'=>e = .returned (.int .u32 r)/\w'=w:=by
 have hn0:(0:Int)<=(n:Int):=by omega
 go_enter Tryz.func200,Tryz.ntmps200;go_wp2_with fail;go_ret;exact ⟨rfl,rfl⟩
theorem fourSteps (x:B32) (w:World) (h:SumTab w) :
  Calls Tryz.prog 200 #[u32 x] w fun e w'=>e = .returned (u32 (W.st4 x))/\w'=w:=by
 have hx:=u32_xor (x >>> 4) (W.st4 (x &&& 15#32));rw [<-W.st4_low] at hx
 have hn:((x &&& 15#32).toNat:Int)<16:=by
  have:(x &&& 15#32).toNat<16:=by
   rw [BitVec.toNat_and];exact Nat.lt_of_le_of_lt Nat.and_le_right (by decide)
  omega
 exact fourSteps_plain _ _ _ _ _ w (u32_and x 15#32) (qsf x 4) hn (sum_cell h x) hx
theorem sumMore (x:B32) (s:ByteArray) (w:World) (h:SumTab w) (hs:s.size<=1048576) :
  Calls Tryz.prog 187 #[u32 x,.string s] w fun e w'=>e = .returned (u32 (W.crc x s.data.toList))/\w'=w:=by
 have HT:Hid (SumTab w):=h;clear h;go_enter Tryz.func187,Tryz.ntmps187;go_wp2_with fail;go_loop [0,8] (fun v i=>∃ (k:Nat) (y:B32),v=u32 y/\i = .int .i64 k/\k<=s.size/\y=W.crc x (W.firstK s k)) (fun _ i=>s.size - (intOf i).toNat)
 case atStart=>exact ⟨0,x,rfl,rfl,Nat.zero_le _,by simp [W.firstK,W.crc]⟩
 case round =>
  obtain ⟨k,y,rfl,rfl,hk,hy⟩:=hrel;have HY:Hid (y=W.crc x (W.firstK s k)):=hy;clear hy
  by_cases hlt:k<s.size
  ·obtain ⟨b,hb,hbt⟩:=W.firstK_step s k hlt
   have k0:(0:Int)<=(k:Int):=by omega
   have k1:(k:Int)<(s.size:Int):=by omega
   have hix:=qnu s k hlt;rw [hbt] at hix
   have hbw:IntKind.u32.wrap (b.toNat:Int)=(b.toNat:Int):=by
    have:=b.toNat_lt;simp [IntKind.wrap,IntKind.bits,IntKind.signed];omega
   obtain ⟨z,hz⟩:∃ z,z=y ^^^ W.by32 b:=⟨_,rfl⟩;have hxor:=qqx y b;rw [<-hz] at hxor;have HB:Hid (W.firstK s (k+1)=W.firstK s k++[b]):=hb;have HZ:Hid (z=y ^^^ W.by32 b):=hz;clear hb hz hbt;go_wp2_with fail;refine (fourSteps z _ HT.out).mono ?_;rintro e w1 ⟨rfl,rfl⟩;go_wp2_with fail;refine (fourSteps _ _ HT.out).mono ?_;rintro e w2 ⟨rfl,rfl⟩;go_wp2_with fail;go_round
   case rel=>exact ⟨k+1,W.st8 z,rfl,by go_num,by omega,by rw [HB.out,W.crc_snoc,HZ.out,HY.out]⟩
   case measure=>simp [intOf];omega
  ·obtain rfl:y=W.crc x s.data.toList:=by rw [HY.out,W.firstK_all s k (by omega)]
   go_wp2_with fail;go_ret;exact ⟨rfl,rfl⟩
theorem specMore (x:B32) (s:ByteArray) (w:World) (hs:s.size<=1048576) :
  Calls Tryz.prog 144 #[u32 x,.string s] w fun e w'=>e = .returned (u32 (W.crc x s.data.toList))/\w'=w:=by
 go_enter Tryz.func144,Tryz.ntmps144;go_wp2_with fail;go_loop [0,5] (fun v i=>∃ (k:Nat) (y:B32),v=u32 y/\i = .int .i64 k/\k<=s.size/\y=W.crc x (W.firstK s k)) (fun _ i=>s.size - (intOf i).toNat)
 case atStart=>exact ⟨0,x,rfl,rfl,Nat.zero_le _,by simp [W.firstK,W.crc]⟩
 case round =>
  obtain ⟨k,y,rfl,rfl,hk,hy⟩:=hrel;have HY:Hid (y=W.crc x (W.firstK s k)):=hy;clear hy
  by_cases hlt:k<s.size
  ·obtain ⟨b,hb,hbt⟩:=W.firstK_step s k hlt
   have k0:(0:Int)<=(k:Int):=by omega
   have k1:(k:Int)<(s.size:Int):=by omega
   have hix:=qnu s k hlt;rw [hbt] at hix
   have hbw:IntKind.u32.wrap (b.toNat:Int)=(b.toNat:Int):=by
    have:=b.toNat_lt;simp [IntKind.wrap,IntKind.bits,IntKind.signed];omega
   obtain ⟨z,hz⟩:∃ z,z=y ^^^ W.by32 b:=⟨_,rfl⟩;have hxor:=qqx y b;rw [<-hz] at hxor;have HB:Hid (W.firstK s (k+1)=W.firstK s k++[b]):=hb;have HZ:Hid (z=y ^^^ W.by32 b):=hz;clear hb hz hbt;go_wp2_with fail;go_loop [0,6] (fun v i=>∃ (j:Nat) (y:B32),v=u32 y/\i = .int .i64 j/\j<=8/\y=W.stN j z) (fun _ i=>8 - (intOf i).toNat)
   case atStart=>exact ⟨0,z,rfl,rfl,Nat.zero_le _,rfl⟩
   case round =>
    obtain ⟨j,y1,rfl,rfl,hj,hy1⟩:=hrel;have HY1:Hid (y1=W.stN j z):=hy1;clear hy1
    by_cases hj8:j<8
    ·have hhalf:=u32_half y1
     have hodd:=u32_odd y1;have hpoly:=u32_poly y1;obtain ⟨z1,hz1⟩:∃ z1,z1=y1 >>> 1:=⟨_,rfl⟩;rw [<-hz1] at hhalf hpoly;have j8:(j:Int)<8:=by omega
     have w1:=qib z1
     by_cases ho:y1.getLsbD 0=true
     ·rw [if_pos ho] at hodd
      have e:W.st y1=z1 ^^^ W.poly:=by unfold W.st;rw [if_pos ho,hz1]
      rw [<-e] at hpoly;have HE:Hid _:=e;have HZ1:Hid _:=hz1;clear e hz1 ho;go_wp2_with fail;go_round
      case rel=>exact ⟨j+1,W.st y1,rfl,by go_num,by omega,by rw [HY1.out];rfl⟩
      case measure=>simp [intOf];omega
     ·rw [if_neg ho] at hodd
      have e:W.st y1=z1:=by unfold W.st;rw [if_neg ho,hz1];simp
      have HE:Hid _:=e;have HZ1:Hid _:=hz1;clear e hz1 ho hpoly;go_wp2_with fail;go_round
      case rel=>exact ⟨j+1,z1,rfl,by go_num,by omega,by rw [<-HE.out,HY1.out];rfl⟩
      case measure=>simp [intOf];omega
    ·obtain rfl:j=8:=by omega
     go_wp2_with fail;go_round
     case rel=>exact ⟨k+1,y1,rfl,by go_num,by omega,by rw [HB.out,W.crc_snoc,HY1.out,HZ.out,HY.out,W.st8_N]⟩
     case measure=>simp [intOf];omega
  ·obtain rfl:y=W.crc x s.data.toList:=by rw [HY.out,W.firstK_all s k (by omega)]
   go_wp2_with fail;go_ret;exact ⟨rfl,rfl⟩
theorem implSumMore (x:B32) (s:ByteArray) (w:World) (h:SumTab w) (hs:s.size<=1048576) :
  Calls Tryz.prog 164 #[u32 x,.string s] w fun e w'=>e = .returned (u32 (W.crc x s.data.toList))/\w'=w:=by
 have HT:Hid (SumTab w):=h;clear h;have hw:=qib x;go_enter Tryz.func164,Tryz.ntmps164;go_wp2_with fail;refine (sumMore x s _ HT.out hs).mono ?_;rintro e w1 ⟨rfl,rfl⟩;go_wp2_with fail;go_ret;exact ⟨rfl,rfl⟩
def _root_.Go.Proofs.YtackbhpgdohimaaGreatDoor.W.sumOf (s:ByteArray):B32:=W.crc 4294967295#32 s.data.toList
theorem implSumOf (s:ByteArray) (w:World) (h:SumTab w) (hs:s.size<=1048576) :
  Calls Tryz.prog 128 #[.string s] w fun e w'=>e = .returned (u32 (W.sumOf s))/\w'=w:=by
 have HT:Hid (SumTab w):=h;clear h;go_enter Tryz.func128,Tryz.ntmps128;go_wp2_with fail;refine (implSumMore 4294967295#32 s _ HT.out hs).mono ?_;rintro e w1 ⟨rfl,rfl⟩;go_wp2_with fail;go_ret;exact ⟨rfl,rfl⟩
theorem specSumOf (s:ByteArray) (w:World) (hs:s.size<=1048576) :
  Calls Tryz.prog 94 #[.string s] w fun e w'=>e = .returned (u32 (W.sumOf s))/\w'=w:=by
 go_enter Tryz.func94,Tryz.ntmps94;go_wp2_with fail;refine (specMore 4294967295#32 s _ hs).mono ?_;rintro e w1 ⟨rfl,rfl⟩;go_wp2_with fail;go_ret;exact ⟨rfl,rfl⟩
end
section
theorem wc_by {w w':World} {g:Nat} {q:Option Nat} {L:List Value} (h:WCells w g L) (hg:w.grownBy w' q) (hq:q ≠ some g):WCells w' g L:=by
 have hk:=hg.block g h.1 (fun e=>hq e.symm);refine ⟨Nat.lt_of_lt_of_le h.1 hg.size,fun i v hv=>?_⟩;have h1:=h.2 i v hv;simp only [World.cell?,World.frozen?,hk] at h1 ⊢;exact h1
structure NB (w:World) (B:Nat) (v:Value) (rs:List NR):Prop where
 own:w.ownsRow B 90 9 v rs.length (ncs rs)
 rows:∀ r ∈ rs,w.ownsRow B 143 2 (.slice r.loc r.nd.pieces.length r.cap) r.nd.pieces.length (pcs r.nd.pieces)
 apart:rs.Pairwise fun r s=>r.loc ≠ none->s.loc ≠ none->r.loc ≠ s.loc
theorem qfg {w:World} {B t sz n:Nat} {v:Value} {L:List Value} (h:w.ownsRow B t sz v n L) (hn:n ≠ 0):∃ g cap cur,v = .slice (some ⟨g,0,none⟩) n cap/\B<=g/\g<w.heap.size/\w.heap[g]?=some (.cells cur t (0,0)):=by
 rcases h.2 with ⟨_,h0⟩ | ⟨g,cap,cur,e,h1,h2,_⟩
 ·exact absurd h0 hn
 ·exact ⟨g,cap,cur,e,h1,(Array.getElem?_eq_some_iff.1 h2).1,h2⟩
theorem qau {w:World} {B t sz n g:Nat} {v:Value} {L:List Value} (h:w.ownsRow B t sz v n L) (e:v.ownBlock=some g):∃ cur,w.heap[g]?=some (.cells cur t (0,0)):=by
 rcases h.2 with ⟨rfl,_⟩ | ⟨g',cap,cur,rfl,_,h2,_⟩
 ·cases e
 ·cases e;exact ⟨cur,h2⟩
theorem qhj {w:World} {B n sz:Nat} {t:TypeId} {v:Value} {L:List Value} (h:w.ownsRow B t sz v n L):∃ a c,v = .slice a n c:=by
 rcases h.2 with ⟨rfl,h0⟩ | ⟨g,cap,cur,e,_⟩
 ·exact ⟨none,0,by rw [h0]⟩
 ·exact ⟨_,_,e⟩
theorem qfr {w:World} {B C n sz:Nat} {t:TypeId} {v:Value} {L:List Value} (h:w.ownsRow B t sz v n L) (hC:C<=B):w.ownsRow C t sz v n L:=by
 refine ⟨h.1,?_⟩;rcases h.2 with q | ⟨g,cap,cur,e,h1,h2⟩
 ·exact .inl q
 ·exact .inr ⟨g,cap,cur,e,Nat.le_trans hC h1,h2⟩
theorem NB.nil (w:World) (B:Nat):NB w B (.slice none 0 0) []:=⟨by simpa [ncs] using World.ownsRow_nil w B 90 9,by simp,List.Pairwise.nil⟩
theorem NB.grown {w w':World} {B:Nat} {v:Value} {rs:List NR} {q:Option Nat} (h:NB w B v rs) (hg:w.grownBy w' q) (hq:∀ k,q=some k->k<B):NB w' B v rs:=by
 refine ⟨h.own.kept hg ?_,fun r hr=>(h.rows r hr).kept hg ?_,h.apart⟩
 ·cases e:v.ownBlock with
  | none=>exact .inl rfl
  | some k=>exact .inr fun e2=>by have:=hq k e2.symm;have:=(h.own.lt k e).1;omega
 ·cases e:(Value.slice r.loc r.nd.pieces.length r.cap).ownBlock with
  | none=>exact .inl rfl
  | some k=>exact .inr fun e2=>by have:=hq k e2.symm;have:=((h.rows r hr).lt k e).1;omega
theorem NB.below {w w':World} {B:Nat} {v:Value} {rs:List NR} (h:NB w B v rs) (hb:Below w.heap.size w w'):NB w' B v rs:=
 h.grown (q:=none) ⟨hb.os,hb.tape,hb.output,hb.size,fun k hk _=>hb.block k hk⟩ (fun k e=>by cases e)
theorem NB.setBox {w:World} {B:Nat} {v:Value} {rs:List NR} (h:NB w B v rs) (g i:Nat) (x:Value) (hg:g<B):NB (w.setCell ⟨g,i,none⟩ x) B v rs:=
 h.grown (qam w g i x) (fun k e=>by cases e;exact hg)
theorem NB.setOut {w:World} {B:Nat} {v:Value} {rs:List NR} {c:Array Value} {t:TypeId} {fr:Nat × Nat} (h:NB w B v rs) (g i:Nat) (x:Value) (hg:w.heap[g]?=some (.cells c t fr)) (ht:t ≠ 143) (hv:v.ownBlock ≠ some g):NB (w.setCell ⟨g,i,none⟩ x) B v rs:=by
 refine ⟨h.own.kept (qam w g i x) (.inr hv),fun r hr=>(h.rows r hr).kept (qam w g i x) (.inr fun e=>?_),h.apart⟩;obtain ⟨cur,h2⟩:=qau (h.rows r hr) e;rw [hg] at h2;simp at h2;exact ht h2.2.1
theorem NB.snoc {w w1 w2:World} {B:Nat} {v v':Value} {rs:List NR} {r:NR} (h:NB w B v rs) (hb:Below w.heap.size w w1) (hp:w1.ownsRow B 143 2 (.slice r.loc r.nd.pieces.length r.cap) r.nd.pieces.length (pcs r.nd.pieces))
  (hnew:r.loc ≠ none->∀ s ∈ rs,s.loc ≠ none->s.loc ≠ r.loc) (ho:w2.ownsRow B 90 9 v' (rs.length+1) (ncs rs++qaj r)) (hg:w1.grownBy w2 v.ownBlock):NB w2 B v' (rs++[r]):=by
 have hN:=h.below hb
 have keep:∀ s:NR,w1.ownsRow B 143 2 (.slice s.loc s.nd.pieces.length s.cap) s.nd.pieces.length (pcs s.nd.pieces)->w2.ownsRow B 143 2 (.slice s.loc s.nd.pieces.length s.cap) s.nd.pieces.length (pcs s.nd.pieces):=fun s hr=>by
  refine hr.kept hg ?_
  cases e:(Value.slice s.loc s.nd.pieces.length s.cap).ownBlock with
  | none=>exact .inl rfl
  | some k =>
   refine .inr fun e2=>?_;obtain ⟨c1,h1⟩:=qau hr e;obtain ⟨c2,h2⟩:=qau hN.own e2.symm;rw [h1] at h2;simp at h2
 refine ⟨?_,fun s hs=>?_,?_⟩
 ·have e:ncs (rs++[r])=ncs rs++qaj r:=by simp [ncs]
  rw [e,List.length_append,List.length_singleton];exact ho
 ·rcases List.mem_append.1 hs with q | q
  ·exact keep s (hN.rows s q)
  ·rw [List.mem_singleton.1 q]
   exact keep r hp
 ·refine List.pairwise_append.2 ⟨h.apart,List.pairwise_singleton _ _,fun s hs t ht h1 h2=>?_⟩
  rw [List.mem_singleton.1 ht] at h2 ⊢;exact hnew h2 s hs h1
theorem qri {w:World} {B t sz n c:Nat} {a:Option Addr} {L:List Value} (h:w.ownsRow B t sz (.slice a n c) n L) (hn:n ≠ 0):a ≠ none:=by
 obtain ⟨g,cap,cur,e,_⟩:=qfg h hn;simp at e;rw [e.1];simp
theorem NB.fin {w:World} {B:Nat} {v:Value} {rs:List NR} {nx:Int} (h:NB w B v rs):TAns w (.agg #[v,.int .i64 nx]) ⟨nds rs,nx⟩ B w.heap.size:=by
 have hown:=h.own;rcases hown.2 with ⟨rfl,h0⟩ | ⟨g,cap,cur,rfl,hB,hcur,hn,_⟩
 ·have:rs=[]:=List.eq_nil_of_length_eq_zero h0
  subst this;exact ⟨none,0,[],rfl,rfl,zL,.inl rfl⟩
 ·refine ⟨_,cap,rs,rfl,rfl,hn,.inr ⟨g,rfl,?_⟩⟩
  refine ⟨qan h.own,hB,(Array.getElem?_eq_some_iff.1 hcur).1,fun r hr=>?_,?_⟩
  ·by_cases hp:r.nd.pieces=[]
   ·exact .inl (by show pcs r.nd.pieces=[];rw [hp];rfl)
   ·have hr':=h.rows r hr
    obtain ⟨b,cp,c2,e1,q1,q2,q3⟩:=qfg hr' (by simpa using hp);have e2:r.loc=some ⟨b,0,none⟩:=(by simpa using e1:r.loc=some ⟨b,0,none⟩/\r.cap=cp).1;refine .inr ⟨b,e2,q1,q2,fun e=>?_,?_⟩
    ·rw [e,hcur] at q3
     simp at q3
    ·rw [e2] at hr'
     exact qan hr'
  ·have ha:=List.pairwise_iff_getElem.1 h.apart
   refine List.pairwise_iff_getElem.2 (fun i j hi hj hij h1 h2=>ha i j hi hj hij ?_ ?_)
   ·exact qri (h.rows _ (List.getElem_mem hi)) (fun e=>h1 (by show pcs rs[i].nd.pieces=[];rw [List.eq_nil_of_length_eq_zero e];rfl))
   ·exact qri (h.rows _ (List.getElem_mem hj)) (fun e=>h2 (by show pcs rs[j].nd.pieces=[];rw [List.eq_nil_of_length_eq_zero e];rfl))

structure OwS (w0 W:World) (S:List Str) (ty sz:Nat) (v:Value) (n:Nat) (L:List Value):Prop where
 sl:SL w0 W S
 own:W.ownsRow w0.heap.size ty sz v n L
 far:∀ q,v.ownBlock=some q->∀ s ∈ S,s.hi<=q\/q<s.lo
section
variable {w0 W W':World} {S:List Str} {s:Str} {ty sz n:Nat} {v:Value} {L:List Value}
theorem qbe (h:W.ownsRow w0.heap.size ty sz v n L):∃ a c,v = .slice a n c:=by
 rcases h.2 with ⟨rfl,h0⟩ | ⟨g,cap,cur,e,_⟩
 ·exact ⟨none,0,by rw [h0]⟩
 ·exact ⟨_,_,e⟩
theorem OwS.new (h:SL w0 W S):OwS w0 (W.alloc (.cells #[] ty)) S ty sz (.slice (some ⟨W.heap.size,0,none⟩) 0 0) 0 []:=by
 refine ⟨h.below (zB.alloc zL _),World.ownsRow_made (e:=ty) (size:=sz) (base:=w0.heap.size) W #[] 0 h.bel.size (by decide) (by simp),fun q e s hs=>?_⟩;have eq:W.heap.size=q:=by simpa [Value.ownBlock] using e
 have:=(h.is s hs).2.2.2;omega
theorem OwS.nil (h:SL w0 W S):OwS w0 W S ty sz (.slice none 0 0) 0 []:=⟨h,World.ownsRow_nil _ _ _ _,fun q e=>by cases e⟩
theorem OwS.below (h:OwS w0 W S ty sz v n L) (hb:Below W.heap.size W W'):OwS w0 W' S ty sz v n L:=
 ⟨h.sl.below hb,h.own.kept (row:=none) ⟨hb.os,hb.tape,hb.output,hb.size,fun k hk _=>hb.block k hk⟩ (Classical.em _),h.far⟩
theorem OwS.lt (h:OwS w0 W S ty sz v n L) (q:Nat) (e:v.ownBlock=some q):w0.heap.size<=q/\q<W.heap.size:=h.own.lt q e
theorem OwS.add (h:OwS w0 W S ty sz v n L) (hb:Below W.heap.size W W') (hp:s.p W') (hl:s.Loc) (h1:W.heap.size<=s.lo) (h2:s.hi<=W'.heap.size):OwS w0 W' (s::S) ty sz v n L:=by
 have k:=h.below hb;refine ⟨h.sl.add hb hp hl h1 h2,k.own,fun q e x hx=>?_⟩;rcases List.mem_cons.1 hx with rfl | hx
 ·exact .inr (by have:=(h.lt q e).2;omega)
 ·exact h.far q e x hx
theorem OwS.box (h:OwS w0 W S ty sz v n L) (cs:Array Value) (t:TypeId):OwS w0 (W.alloc (.cells cs t)) (bxS W.heap.size cs.toList::S) ty sz v n L:=
 h.add (zB.alloc zL _) (qac W cs t) (bxS.loc _ _) zL (by simp)
theorem OwS.tail (h:OwS w0 W (s::S) ty sz v n L):OwS w0 W S ty sz v n L:=⟨h.sl.tail,h.own,fun q e x hx=>h.far q e x (List.mem_cons_of_mem _ hx)⟩
theorem OwS.put (h:OwS w0 W S ty sz v n L) (i:Nat) {b:Nat} {X:List Value} (hs:S[i]?=some (bxS b X)) (j:Nat) (x:Value) (hj:j<X.length):OwS w0 (W.setCell ⟨b,j,none⟩ x) (S.set i (bxS b (X.set j x))) ty sz v n L:=by
 have hm:=List.mem_of_getElem? hs
 have hne:∀ q,v.ownBlock=some q->q ≠ b:=fun q e hq=>by
  have:=h.far q e _ hm;dsimp only [bxS] at this;omega
 refine ⟨h.sl.put i hs j x hj,h.own.kept (qam W b j x) ?_,fun q e s hq=>?_⟩
 ·cases e:v.ownBlock with
  | none=>exact .inl rfl
  | some k=>exact .inr fun e2=>hne k e (by cases e2;rfl)
 ·obtain ⟨k,hk,rfl⟩:=List.getElem_of_mem hq
  rw [List.length_set] at hk
  by_cases ek:k=i
  ·subst ek
   rw [List.getElem_set_self];have:=h.far q e _ hm;exact this
  ·rw [List.getElem_set_ne (Ne.symm ek)]
   exact h.far q e _ (List.getElem_mem hk)
theorem OwS.more {Wa:World} {v':Value} {m:Nat} {L':List Value} (h:OwS w0 W S ty sz v n L) (hb:Below W.heap.size W Wa) (ho:W'.ownsRow w0.heap.size ty sz v' m L') (hg:Wa.grownBy W' v.ownBlock) (hat:v'.ownBlock=v.ownBlock\/v'.ownBlock=some Wa.heap.size):OwS w0 W' S ty sz v' m L':=by
 have k:=h.below hb;refine ⟨k.sl.grown hg fun q e=>⟨(k.lt q e).1,k.far q e⟩,ho,fun q e s hs=>?_⟩;rcases hat with e2 | e2
 ·exact h.far q (by rw [<-e2];exact e) s hs
 ·rw [e2] at e
  have eq:Wa.heap.size=q:=by simpa using e
  have:=(k.sl.is s hs).2.2.2;omega
theorem OwS.frw (h:OwS w0 W S ty sz v n L):∃ a c,v = .slice a n c/\FRw W a L w0.heap.size W.heap.size/\n<=c:=by
 obtain ⟨a,c,rfl⟩:=qbe h.own;exact ⟨a,c,rfl,(FRw.of_own h.own).1,(FRw.of_own h.own).2⟩
end
theorem qcx {P:Program} (w:World) {ops:Array Oper} {rest:List Oper} {o:Oper} {a:Act} {Q:Exit->Act->World->Prop} (hgd:o.guard=none) (s x:Operand) (t:TypeId)
  (ho:o.op = .call { callee:=.builtin .append,args:=#[s,x],argTypes:=#[t,t] })
  (base:Nat) (e:TypeId) (i:TypeInfo) (z:Value) (size bytes:Nat) (ht:P.underlying t=some (.slice e)) (hi:P.info? e=some i) (hz:i.zero=some z)
  (hsize:i.size=size) (hby:i.bytes=bytes) (hzs:z.cells.size=size) (hsz:0<size)
  (v:Value) (n:Nat) (xs:List Value) (hs:a.eval s=v) (hown:w.ownsRow base e size v n xs)
  (ra:Option Addr) (m c:Nat) (news:List Value) (hx:a.eval x = .slice ra m c) (hl:news.length=m*size) (hrow:CRow w ra news) (h1:∀ u ∈ news,u.oneCell'=true)
  (h63:n+m<=maxLen) (hbytes:(n+m)*bytes<=140737488355328) (hbase:base<=w.heap.size)
  (h:∀ v' w',w'.ownsRow base e size v' (n+m) (xs++news)->w.grownBy w' v.ownBlock->(v'.ownBlock=v.ownBlock\/v'.ownBlock=some w.heap.size)->wpList P ops Q rest (a.put o.dst v') w') :
  wpList P ops Q (o::rest) a w:=by
 by_cases hm:m=0
 ·subst hm
  have hn:news=[]:=List.eq_nil_of_length_eq_zero (by rw [hl];simp);subst hn
  have hv:∃ av cv,v = .slice av n cv/\n<=cv:=by
   rcases hown.2 with ⟨rfl,h0⟩ | ⟨g,cap,cur,e1,_,_,h3,_⟩
   ·exact ⟨none,0,by rw [h0],by omega⟩
   ·exact ⟨_,_,e1,h3⟩
  obtain ⟨av,cv,rfl,hcv⟩:=hv
  have hsrc:Src P i.size t (.slice ra 0 c) 0 [] w:=by
   cases ra with
   | none=>exact Src.ofNil w ht c
   | some q=>exact Src.ofSlice w ht q 0 c [] (by simp) (by simp) (by simp)
  refine wpList_plain hgd fun K' hK'=>?_;unfold Oper.wp;simp [execOp,ho,resolve,invoke,builtin,hs,hx,run_append_nothing w t t o.type e i ht hi av n cv hcv _ hsrc,Result.andThen];exact hK' _ _ (h _ w (by simpa using hown) ⟨rfl,rfl,rfl,zL,fun _ _ _=>rfl⟩ (.inl rfl))
 ·obtain ⟨b,off,rfl,_,hc⟩:=hrow (by rw [hl];exact Nat.mul_pos (Nat.pos_of_ne_zero hm) hsz)
  refine wpList_append_own_at _ hgd s x t ho base e i z size bytes ht hi hz hsize hby hzs hsz v n xs hs hown ⟨b,off,none⟩ m c news hx hl (fun j u hj=>?_) h1 h63 hbytes hbase (fun v' w' h2 h3 _ h5=>h v' w' h2 h3 h5);have e2:(⟨b,off,none⟩:Addr).add j=⟨b,off+j,none⟩:=by cases j <;> simp [Addr.add]
  rw [e2];exact hc j u hj
end
section
open BigFrame
variable {W:World}
def qsa (L:List LsM) (w:World) (e:Ending) (w':World):Prop:=∃ a c,e = .returned (.slice a L.length c)/\FRw w' a (lsS L) w.heap.size w'.heap.size/\L.length<=c/\Below w.heap.size w w'
theorem qsb (us:List LsM):∀ u ∈ lsS us,u.oneCell'=true:=by
 intro u hu;unfold lsS at hu;obtain ⟨x,_,hx⟩:=List.mem_flatMap.1 hu;simp only [lsC,List.mem_cons,List.not_mem_nil,or_false] at hx;rcases hx with rfl | rfl | rfl <;> rfl
theorem lss_snoc (us:List LsM) (u:LsM):lsS (us++[u])=lsS us++lsC u:=by simp [lsS]
theorem ls_at {w W:World} {a:Option Addr} {us:List LsM} (hr:LsRow w a us) (hb:Below w.heap.size w W) {k:Nat} (hk:k<us.length):∃ b off u,a=some ⟨b,off,none⟩/\u=us[k]/\b<w.heap.size/\∀ X,Below W.heap.size W X->X.cell? ⟨b,off+k*3,none⟩=some (.string u.path)/\X.cell? ⟨b,off+k*3+1,none⟩=some (.int .i64 u.who)/\X.cell? ⟨b,off+k*3+2,none⟩=some (.int .i64 u.seen):=by
 obtain ⟨b,off,e,lb,_⟩:=LsRow.at hr (by omega);refine ⟨b,off,us[k],e,rfl,lb,fun X hX=>?_⟩;obtain ⟨b',off',e',_,hc⟩:=LsRow.at (hr.stays (hb.trans (hX.mono hb.size))) (by omega);rw [e] at e';simp only [Option.some.injEq,Addr.mk.injEq,and_true] at e';obtain ⟨rfl,rfl⟩:=e';exact hc k hk
theorem specCopy16 (us:List LsM) (a:Option Addr) (cap:Nat) (w:World) (hr:LsRow w a us) (hl:us.length<=1048576) :
  Calls Tryz.prog 41 #[.slice a us.length cap] w fun e w'=>qsa us w e w':=by
 obtain ⟨i0,hin,hz0,hz1,hz2⟩:=info_parts qhq;have HR:=zS hr;have HO:=zS (OwS.new (ty:=102) (sz:=3) (SL.start w));obtain ⟨n,hn⟩:∃ n,n=us.length:=⟨_,rfl⟩;have HN:=zS hn;rw [<-hn] at hl ⊢;clear hr hn;go_enter Tryz.func41,Tryz.ntmps41;go_wp2_with (at_builtin;refine qcx _ rfl _ _ 41 rfl w.heap.size 102 i0 _ 3 32 Tryz.underlying41 hin hz0 hz1 hz2 rfl (by decide) _ _ _ rfl HO.1.own a n cap (lsS us) rfl (by rw [qkk,HN.1]) (HR.1.stays HO.1.sl.bel) (qsb us) (by unfold maxLen;omega) (by omega) HO.1.sl.bel.size ?_;intro v6 w6 ho6 hg6 ha6;obtain ⟨a7,c7,rfl⟩:=qbe ho6;have H6:=zS (HO.1.more zB ho6 hg6 ha6);clear ho6 hg6 ha6 HO;simp only [Nat.zero_add,List.nil_append] at H6);go_ret;obtain ⟨a8,c8,e8,hf8,hc8⟩:=H6.1.frw;obtain ⟨rfl,rfl⟩:a7=a8/\c7=c8:=by simpa using e8
 exact ⟨a7,c7,by rw [<-HN.1];simp,hf8,by rw [<-HN.1];exact hc8,H6.1.sl.bel⟩
theorem qot {va:Option Addr} {X:List Value} {lo hi lo' hi':Nat} (h:FRw W va X lo hi) (h1:lo'<=lo) (h2:hi<=hi'):FRw W va X lo' hi':=by
 rcases h with e | ⟨g,e,q1,q2,q3⟩
 ·exact .inl e
 ·exact .inr ⟨g,e,by omega,by omega,q3⟩
end
section
theorem qhm {W:World} {u:Value} {T:TM} {lo hi:Nat} (h:TAns W u T lo hi):∃ c m cc,u = .agg #[.slice c m cc,.int .i64 T.next]:=by
 obtain ⟨c,cc,ts,rfl,_⟩:=h;exact ⟨c,_,cc,rfl⟩
attribute [local irreducible] markK
end
section
variable {s:Int} {xs:List Int} {n:Nat} {v:Value} {w:World}
def IAns (w:World) (v:Value) (xs:List Int) (lo hi:Nat):Prop:=∃ (a:Option Addr) (cap:Nat),v = .slice a xs.length cap/\xs.length<=cap/\(xs=[]\/∃ g,a=some ⟨g,0,none⟩/\lo<=g/\g<hi/\WCells w g (ics xs))
theorem IAns.empty (w:World) (a:Option Addr) (cap lo hi:Nat):IAns w (.slice a 0 cap) [] lo hi:=⟨a,cap,rfl,Nat.zero_le _,.inl rfl⟩
theorem IAns.crow {lo hi:Nat} (h:IAns w v xs lo hi):∃ a cap,v = .slice a xs.length cap/\CRow w a (ics xs):=by
 obtain ⟨a,cap,e,_,q⟩:=h;refine ⟨a,cap,e,?_⟩;rcases q with rfl | ⟨g,rfl,_,_,q⟩
 ·intro h;simp [ics] at h
 ·exact q.crow
def IPost (xs:List Int) (w:World) (e:Ending) (w':World):Prop:=∃ v,e = .returned v/\IAns w' v xs w.heap.size w'.heap.size/\Below w.heap.size w w'
theorem qgq {w w':World} (hn:xs.length=n) (h:w'.ownsRow w.heap.size 3 1 v n (ics xs)):IAns w' v xs w.heap.size w'.heap.size:=by
 have hlt:=h.lt;have hown:=h;subst hn;obtain ⟨_,⟨rfl,h0⟩ | ⟨g,cap,cur,rfl,hB,hcur,hn,_⟩⟩:=h
 ·have:xs=[]:=List.eq_nil_of_length_eq_zero h0
  subst this;exact IAns.empty _ _ _ _ _
 ·exact ⟨_,cap,rfl,hn,.inr ⟨g,rfl,hB,(hlt g rfl).2,qan hown⟩⟩
def spanL (S n:Nat):List Int:=List.replicate ((n - 1) / S) (S:Int)++[((n - (n - 1) / S*S:Nat):Int)]
def qaw (s n:Int):List Int:=if schOk s=true/\1<=n/\n<=1000 then spanL (qbl s) n.toNat else []
theorem qfc {s n:Int} (h:¬ (schOk s=true/\1<=n/\n<=1000)):qaw s n=[]:=if_neg h
theorem qku (h:schOk s=true):16<=qbl s:=by have:=(qgo h).1;unfold qbl;omega
theorem qmc (h:schOk s=false):qbl s=0:=by unfold qbl;rw [(qgp h).1]
theorem qou {S n j:Nat} (hS:0<S) (h1:j*S<n) (h2:n<=j*S+S):(n - 1) / S=j:=by
 have e:n - 1=(n - 1 - j*S)+j*S:=by omega
 rw [e,Nat.add_mul_div_right _ _ hS,Nat.div_eq_of_lt (by omega),Nat.zero_add]
theorem specSpans (s n:Int) (w:World):Calls Tryz.prog 91 #[.int .i64 s,.int .i64 n] w fun e w'=>IPost (qaw s n) w e w':=by
 obtain ⟨i1,hi1,hy0,hy1,hy2⟩:=info_parts qjm;have HG:=zS (fun W=>qia s W);obtain ⟨bn,hbn⟩:∃ r,(decide ((1:Int)<=n)&&decide (n<=1000))=r:=⟨_,rfl⟩;have hin:=in_bool hbn;have HIN:=zS (fun W=>isIn n 1 1000 W bn hbn);have hg32:=qct s;have hal:Below w.heap.size w (w.alloc (.cells #[] 3)):=zB.alloc zL _;have HAL:=zS hal;have HO:Sh ((w.alloc (.cells #[] 3)).ownsRow w.heap.size 3 1 (.slice (some ⟨w.heap.size,0,none⟩) 0 0) 0 []):=⟨World.ownsRow_made w #[] 0 zL (by decide) rfl⟩;clear hal hbn
 cases h:schOk s with
 | false =>
  rw [qfc (fun q=>by rw [h] at q;cases q.1)];rw [qmc h] at HG;clear h hin hg32;go_enter Tryz.func91,Tryz.ntmps91;go_wp2_with fail;refine (HG.1 _).mono ?_;rintro e w1 ⟨rfl,rfl⟩;go_wp2_with fail;go_ret;exact ⟨_,rfl,IAns.empty _ _ _ _ _,HAL.1⟩
 | true =>
  have h16:=qku h
  cases bn with
  | false =>
   rw [qfc (fun q=>by have:=hin.2 q.2;cases this)];clear h hin;generalize qbl s=S at *;have hS0:((S:Int)==0)=false:=by rw [beq_eq_false_iff_ne];omega
   go_enter Tryz.func91,Tryz.ntmps91;go_wp2_with fail;refine (HG.1 _).mono ?_;rintro e w1 ⟨rfl,rfl⟩;go_wp2_with fail;refine (HIN.1 _).mono ?_;rintro e w2 ⟨rfl,rfl⟩;go_wp2_with fail;go_ret;exact ⟨_,rfl,IAns.empty _ _ _ _ _,HAL.1⟩
  | true =>
   obtain ⟨n1,n2⟩:=hin.1 rfl;obtain ⟨N,rfl⟩:=Int.eq_ofNat_of_zero_le (show 0<=n by omega);have e0:qaw s (N:Int)=spanL (qbl s) N:=by unfold qaw;rw [if_pos ⟨h,n1,n2⟩];rfl
   rw [e0];clear h hin e0;generalize qbl s=S at *;have hS0:((S:Int)==0)=false:=by rw [beq_eq_false_iff_ne];omega
   go_enter Tryz.func91,Tryz.ntmps91;go_wp2_with fail;refine (HG.1 _).mono ?_;rintro e w1 ⟨rfl,hw1⟩;obtain rfl:w.alloc (.cells #[] 3)=w1:=hw1.symm;clear hw1;go_wp2_with fail;refine (HIN.1 _).mono ?_;rintro e w2 ⟨rfl,hw2⟩;obtain rfl:w.alloc (.cells #[] 3)=w2:=hw2.symm;clear hw2;go_wp2_with fail;go_loopw [1,5] (fun nn v wr=>∃ (j r:Nat) (vv:Value),vv=v/\nn = .int .i64 (r:Nat)/\1<=r/\r<=1000/\Sh (j*S+r=N)/\j<=1000/\Sh (wr.ownsRow w.heap.size 3 1 vv j (ics (List.replicate j (S:Int))))/\Sh (Below w.heap.size w wr)) (fun nn _ _=>(intOf nn).toNat)
   case atStart=>exact ⟨0,N,_,rfl,rfl,by omega,by omega,⟨by omega⟩,by omega,HO,HAL⟩
   case round =>
    clear HO HAL;obtain ⟨j,r,v,rfl,rfl,hr1,hr2,hjr,hj,hown,hb⟩:=hrel;obtain ⟨wo,rfl⟩:∃ wo,wo=wr:=⟨_,rfl⟩;have hso:=hb.1.size;have hown3:=hown.1
    by_cases hlt:S<r
    ·have hlt':(S:Int)<(r:Int):=by omega
     have hj2:j+1<=1000:=by
      have h1:=hjr.1;have h2:j<=j*S:=Nat.le_mul_of_pos_right j (by omega);omega
     go_wp2_with (at_builtin;refine wpList_append_own _ rfl _ _ 140 rfl w.heap.size 3 i1 (.int .i64 0) 1 8 Tryz.underlying140 hi1 hy0 hy1 hy2 rfl (by decide) _ _ _ rfl (hown3.alloc _) ⟨wo.heap.size,0,none⟩ 1 1 [.int .i64 (S:Int)] rfl rfl (cell_one_new _ _ _) ?c2 ?c3 ?c4 ?c5 ?_)
     case c2=>first | rfl | (intro u hu;simp at hu;subst hu;rfl)
     case c3=>unfold maxLen;omega
     case c4=>omega
     case c5=>first | omega | (simp;omega)
     intro v' w4 hown' hgrow _
     have Q1:Sh (w4.ownsRow w.heap.size 3 1 v' (j+1) (ics (List.replicate (j+1) (S:Int)))):=⟨by
      have e:ics (List.replicate (j+1) (S:Int))=ics (List.replicate j (S:Int))++[.int .i64 (S:Int)]:=by rw [List.replicate_succ'];simp [ics]
      rw [e];exact hown'⟩
     have Q2:=zS ((hb.1.alloc hso (.cells #[.int .i64 (S:Int)] 3)).grown hgrow (by simp;omega) (fun j hj=>(hown3.lt j hj).1));have Q3:Sh ((j+1)*S+(r - S)=N):=⟨by rw [Nat.add_mul];have:=hjr.1;omega⟩;have hsub:(r:Int) - (S:Int)=((r - S:Nat):Int):=by omega
     clear hown' hgrow hown3 hb hown hjr;go_wp2_with fail;exact ⟨⟨j+1,r - S,v',rfl,by rw [<-hsub],by omega,by omega,Q3,hj2,Q1,Q2⟩,by simp [intOf];omega⟩
    ·have hlt':¬ (S:Int)<(r:Int):=by omega
     have hle:(r:Int)<=(S:Int):=by omega
     have HSP:Sh (spanL S N=List.replicate j (S:Int)++[(r:Int)]):=⟨by
      have h1:=hjr.1;have e:=qou (S:=S) (n:=N) (j:=j) (by omega) (by omega) (by omega);unfold spanL;rw [e]
      congr 3
      omega⟩
     go_wp2_with (at_builtin;refine wpList_append_own _ rfl _ _ 140 rfl w.heap.size 3 i1 (.int .i64 0) 1 8 Tryz.underlying140 hi1 hy0 hy1 hy2 rfl (by decide) _ _ _ rfl (hown3.alloc _) ⟨wo.heap.size,0,none⟩ 1 1 [.int .i64 (r:Int)] rfl rfl (cell_one_new _ _ _) ?c2 ?c3 ?c4 ?c5 ?_)
     case c2=>first | rfl | (intro u hu;simp at hu;subst hu;rfl)
     case c3=>unfold maxLen;omega
     case c4=>omega
     case c5=>first | omega | (simp;omega)
     intro v' w4 hown' hgrow _
     have Q1:Sh (IAns w4 v' (spanL S N) w.heap.size w4.heap.size):=⟨by
      rw [HSP.1];refine qgq (n:=j+1) (by simp) ?_;have e:ics (List.replicate j (S:Int)++[(r:Int)])=ics (List.replicate j (S:Int))++[.int .i64 (r:Int)]:=by simp [ics]
      rw [e];exact hown'⟩
     have Q2:=zS ((hb.1.alloc hso (.cells #[.int .i64 (r:Int)] 3)).grown hgrow (by simp;omega) (fun j hj=>(hown3.lt j hj).1));clear hown' hgrow hown3 hb hown;go_wp2_with fail;go_ret;exact ⟨v',rfl,Q1.1,Q2.1⟩
end
section
open BigFrame
theorem qln (e:EM) (w:World) (hf:EFit e):Calls Tryz.prog 43 #[ev e] w fun r w'=>r = .returned (.bool (qaq e))/\Below w.heap.size w w':=by
 have hnp:=fun W=>qnk e.path W hf.1;have hnt:=fun W=>qnk e.dest W hf.2;obtain ⟨R,hR⟩:∃ R,R=qaq e:=⟨_,rfl⟩;rw [<-hR];obtain ⟨bad,hbad⟩:∃ b,b=qim e:=⟨_,rfl⟩;have hRR:R=(inI e.kind 1 10&&(if e.kind=10 then (e.path.toList==[47])&&(e.dest.toList==[])&&(e.num==0)&&(e.who==0) else !bad&&qlm e)):=by rw [hR,hbad];rfl
 obtain ⟨np,hnp'⟩:∃ b,b=named e.path:=⟨_,rfl⟩;obtain ⟨nt,hnt'⟩:∃ b,b=named e.dest:=⟨_,rfl⟩;rw [<-hnp'] at hnp;rw [<-hnt'] at hnt;unfold qim at hbad;rw [<-hnp',<-hnt'] at hbad;unfold qlm at hRR;have HR:=zS hRR;have HNPC:=zS hnp;have HNTC:=zS hnt;have HBD:=zS hbad;clear hf hnp hnt hR hbad hnp' hnt' hRR;obtain ⟨kind,path,dest,num,who⟩:=e;dsimp only at *
 by_cases h1:inI kind 1 10=true
 case neg =>
  have HF:Sh (R=false):=⟨by rw [HR.1];simp [h1]⟩;have HI:=zS (fun W=>isInI kind 1 10 W false (by simpa using h1));clear h1 HR;go_enter Tryz.func43,Tryz.ntmps43;go_wp2_with (go_at_call 44;refine (HI.1 _).mono ?_;rintro r w1 ⟨rfl,rfl⟩);go_ret;exact ⟨by rw [HF.1];rfl,zB.alloc zL _⟩
 have HI:=zS (fun W=>isInI kind 1 10 W true h1);have HKB:=zS (inI_iff.1 h1);have HIN:=zS (fun x a b W=>isInI x a b W _ rfl);rw [h1] at HR;clear h1
 by_cases h10:kind=10
 ·rw [if_pos h10] at HR
  subst h10;go_enter Tryz.func43,Tryz.ntmps43;go_wp2_with (go_at_call 44;refine (HI.1 _).mono ?_;rintro r w1 ⟨rfl,rfl⟩)
  all_goals
   go_ret;exact ⟨by rw [HR.1];simp [*],zB.alloc zL _⟩
 ·rw [if_neg h10] at HR
  have h10':(kind==10)=false:=by simp [h10]
  obtain ⟨st,hst⟩:∃ b,b=((kind==5)||(kind==6)):=⟨_,rfl⟩;obtain ⟨pr,hpr⟩:∃ b,b=(path.toList==[47]):=⟨_,rfl⟩;obtain ⟨k3,hk3⟩:∃ b,b=(kind==3):=⟨_,rfl⟩;obtain ⟨te,hte⟩:∃ b,b=(dest.toList==[]):=⟨_,rfl⟩
  have HBD':Sh (bad=((!np && !(st&&pr))||(k3 != nt)||(!k3 && !te))):=⟨by
   rw [HBD.1,<-hst,<-hpr,<-hk3];have e1:(kind != 3) = !k3:=by rw [hk3];rfl
   have e2:(dest.toList != []) = !te:=by rw [hte];rfl
   rw [e1,e2]⟩
  have HST:=zS hst;go_enter Tryz.func43,Tryz.ntmps43;go_upto_region 5 with (go_at_call 44;refine (HI.1 _).mono ?_;rintro r w1 ⟨rfl,rfl⟩);refine qaa (fun W=>Below w.heap.size w W/\WCells W w.heap.size [.int .i64 kind,.string path,.string dest,.int .i64 num,.int .i64 who]) ⟨zB.alloc zL _,qac w #[.int .i64 kind,.string path,.string dest,.int .i64 num,.int .i64 who] 47⟩ ?_;intro W hW;have HW:=zS hW;have c0:=(hW.2.2 0 _ rfl).1;have lw:=hW.2.1;have g0:∀ X:Grow W,X.val.cell? ⟨w.heap.size,0,none⟩=some (.int .i64 kind):=fun X=>X.cell c0 lw;have g1:∀ X:Grow W,X.val.cell? ⟨w.heap.size,1,none⟩=some (.string path):=fun X=>X.cell (hW.2.2 1 _ rfl).1 lw;have g2:∀ X:Grow W,X.val.cell? ⟨w.heap.size,2,none⟩=some (.string dest):=fun X=>X.cell (hW.2.2 2 _ rfl).1 lw;have HNP:=zS (fun X=>qgk (w:=W) (fun W' (_:Below W.heap.size W W')=>HNPC.1 W') X);have HNT:=zS (fun X=>qgk (w:=W) (fun W' (_:Below W.heap.size W W')=>HNTC.1 W') X);clear hW HI h10;rw [HBD'.out] at HR;clear HBD HBD';go_upto_region 5 with fail;go_cut [3] from 29 to 36 (fun b wx=>b = .bool st/\wx=W)
  case first =>
   by_cases h5:kind=5
   ·have h5':(kind==5)=true:=by simp [h5]
    have HSE:Sh (st=true):=⟨by rw [HST.1];simp [h5]⟩;clear h5;go_wp2_with fail;go_meet
    case rel=>exact ⟨by rw [HSE.1],rfl⟩
   ·have h5':(kind==5)=false:=by simp [h5]
    have HSE:Sh (st=(kind==6)):=⟨by rw [HST.1];simp [h5]⟩;clear h5;go_wp2_with fail;go_meet
    case rel=>exact ⟨by rw [HSE.1],rfl⟩
  case rest =>
   obtain ⟨rfl,rfl⟩:=hcut;have HSTT:=HST;have hpr':(path.toList==[47])=pr:=hpr.symm;have hk3':(kind==3)=k3:=hk3.symm;have hk3n:(kind != 3) = !k3:=by rw [hk3];rfl
   have hte':(dest.toList==[])=te:=hte.symm;have hten:(dest.toList != []) = !te:=by rw [hte];rfl
   clear hpr hk3 hte hst c0;go_upto_region 6 with fail;go_cut [68] from 37 to 68 (fun b wx=>b = .bool ((!np && !(st&&pr))||(k3 != nt)||(!k3 && !te))/\Sh (Below w.heap.size w wx/\WCells wx w.heap.size [.int .i64 kind,.string path,.string dest,.int .i64 num,.int .i64 who]))
   case first =>
    clear HR HST HSTT
    cases np with
    | true =>
     cases k3 with
     | true =>
      cases nt with
      | true =>
       refine qah (by kernel_rfl) (by kernel_rfl) ?_
       repeat (go_big_quiet_step (first | (go_at_call 84;first | with_reducible exact HNP.1 _ | with_reducible exact HNT.1 _)))
       refine wpQuiet_nil ?_;rintro _ ⟨X,rfl⟩;go_wp2_with fail;go_meet
       case rel=>exact ⟨rfl,⟨HW.1.1.trans (X.bel.mono HW.1.1.size),HW.1.2.grow X.bel⟩⟩
      | false =>
       refine qah (by kernel_rfl) (by kernel_rfl) ?_
       repeat (go_big_quiet_step (first | (go_at_call 84;first | with_reducible exact HNP.1 _ | with_reducible exact HNT.1 _)))
       refine wpQuiet_nil ?_;rintro _ ⟨X,rfl⟩;go_wp2_with fail;go_meet
       case rel=>exact ⟨rfl,⟨HW.1.1.trans (X.bel.mono HW.1.1.size),HW.1.2.grow X.bel⟩⟩
     | false =>
      cases nt with
      | true =>
       refine qah (by kernel_rfl) (by kernel_rfl) ?_
       repeat (go_big_quiet_step (first | (go_at_call 84;first | with_reducible exact HNP.1 _ | with_reducible exact HNT.1 _)))
       refine wpQuiet_nil ?_;rintro _ ⟨X,rfl⟩;go_wp2_with fail;go_meet
       case rel=>exact ⟨rfl,⟨HW.1.1.trans (X.bel.mono HW.1.1.size),HW.1.2.grow X.bel⟩⟩
      | false =>
       cases te with
       | true =>
        refine qah (by kernel_rfl) (by kernel_rfl) ?_
        repeat (go_big_quiet_step (first | (go_at_call 84;first | with_reducible exact HNP.1 _ | with_reducible exact HNT.1 _)))
        refine wpQuiet_nil ?_;rintro _ ⟨X,rfl⟩;go_wp2_with fail;go_meet
        case rel=>exact ⟨rfl,⟨HW.1.1.trans (X.bel.mono HW.1.1.size),HW.1.2.grow X.bel⟩⟩
       | false =>
        refine qah (by kernel_rfl) (by kernel_rfl) ?_
        repeat (go_big_quiet_step (first | (go_at_call 84;first | with_reducible exact HNP.1 _ | with_reducible exact HNT.1 _)))
        refine wpQuiet_nil ?_;rintro _ ⟨X,rfl⟩;go_wp2_with fail;go_meet
        case rel=>exact ⟨rfl,⟨HW.1.1.trans (X.bel.mono HW.1.1.size),HW.1.2.grow X.bel⟩⟩
    | false =>
     cases st with
     | true =>
      cases pr with
      | true =>
       cases k3 with
       | true =>
        cases nt with
        | true =>
         refine qah (by kernel_rfl) (by kernel_rfl) ?_
         repeat (go_big_quiet_step (first | (go_at_call 84;first | with_reducible exact HNP.1 _ | with_reducible exact HNT.1 _)))
         refine wpQuiet_nil ?_;rintro _ ⟨X,rfl⟩;go_wp2_with fail;go_meet
         case rel=>exact ⟨rfl,⟨HW.1.1.trans (X.bel.mono HW.1.1.size),HW.1.2.grow X.bel⟩⟩
        | false =>
         refine qah (by kernel_rfl) (by kernel_rfl) ?_
         repeat (go_big_quiet_step (first | (go_at_call 84;first | with_reducible exact HNP.1 _ | with_reducible exact HNT.1 _)))
         refine wpQuiet_nil ?_;rintro _ ⟨X,rfl⟩;go_wp2_with fail;go_meet
         case rel=>exact ⟨rfl,⟨HW.1.1.trans (X.bel.mono HW.1.1.size),HW.1.2.grow X.bel⟩⟩
       | false =>
        cases nt with
        | true =>
         refine qah (by kernel_rfl) (by kernel_rfl) ?_
         repeat (go_big_quiet_step (first | (go_at_call 84;first | with_reducible exact HNP.1 _ | with_reducible exact HNT.1 _)))
         refine wpQuiet_nil ?_;rintro _ ⟨X,rfl⟩;go_wp2_with fail;go_meet
         case rel=>exact ⟨rfl,⟨HW.1.1.trans (X.bel.mono HW.1.1.size),HW.1.2.grow X.bel⟩⟩
        | false =>
         cases te with
         | true =>
          refine qah (by kernel_rfl) (by kernel_rfl) ?_
          repeat (go_big_quiet_step (first | (go_at_call 84;first | with_reducible exact HNP.1 _ | with_reducible exact HNT.1 _)))
          refine wpQuiet_nil ?_;rintro _ ⟨X,rfl⟩;go_wp2_with fail;go_meet
          case rel=>exact ⟨rfl,⟨HW.1.1.trans (X.bel.mono HW.1.1.size),HW.1.2.grow X.bel⟩⟩
         | false =>
          refine qah (by kernel_rfl) (by kernel_rfl) ?_
          repeat (go_big_quiet_step (first | (go_at_call 84;first | with_reducible exact HNP.1 _ | with_reducible exact HNT.1 _)))
          refine wpQuiet_nil ?_;rintro _ ⟨X,rfl⟩;go_wp2_with fail;go_meet
          case rel=>exact ⟨rfl,⟨HW.1.1.trans (X.bel.mono HW.1.1.size),HW.1.2.grow X.bel⟩⟩
      | false =>
       refine qah (by kernel_rfl) (by kernel_rfl) ?_
       repeat (go_big_quiet_step (first | (go_at_call 84;first | with_reducible exact HNP.1 _ | with_reducible exact HNT.1 _)))
       refine wpQuiet_nil ?_;rintro _ ⟨X,rfl⟩;go_wp2_with fail;go_meet
       case rel=>exact ⟨rfl,⟨HW.1.1.trans (X.bel.mono HW.1.1.size),HW.1.2.grow X.bel⟩⟩
     | false =>
      refine qah (by kernel_rfl) (by kernel_rfl) ?_
      repeat (go_big_quiet_step (first | (go_at_call 84;first | with_reducible exact HNP.1 _ | with_reducible exact HNT.1 _)))
      refine wpQuiet_nil ?_;rintro _ ⟨X,rfl⟩;go_wp2_with fail;go_meet
      case rel=>exact ⟨rfl,⟨HW.1.1.trans (X.bel.mono HW.1.1.size),HW.1.2.grow X.bel⟩⟩
   case rest =>
    obtain ⟨rfl,hV⟩:=hcut;clear g0 g1 g2 HNP HNT HNPC HNTC HW HST HSTT lw hpr' hk3' hk3n hte' hten;generalize ((!np && !(st&&pr))||(k3 != nt)||(!k3 && !te))=bd at *;have c0:=(hV.1.2.2 0 _ rfl).1;have c3:=(hV.1.2.2 3 _ rfl).1;have c4:=(hV.1.2.2 4 _ rfl).1
    cases bd with
    | true =>
     have HF:Sh (R=false):=⟨by rw [HR.1];rfl⟩;clear HR;go_wp2_with fail;go_ret;exact ⟨by rw [HF.1];rfl,hV.1.1⟩
    | false =>
     by_cases k5:kind=5
     ·have HRR:Sh (R=(inI num 1 3&&(who==0))):=⟨by rw [HR.1];simp [k5]⟩
      subst k5;clear HR;go_wp2_with (go_at_call 44;refine (HIN.1 _ _ _ _).mono ?_;rintro r w1 ⟨rfl,rfl⟩)
      all_goals
       go_ret;exact ⟨by rw [HRR.1];simp [*],hV.1.1⟩
     by_cases k6:kind=6
     ·have HRR:Sh (R=(inI num 0 1000&&(who==0))):=⟨by rw [HR.1];simp [k6]⟩
      subst k6;clear HR;go_wp2_with (go_at_call 44;refine (HIN.1 _ _ _ _).mono ?_;rintro r w1 ⟨rfl,rfl⟩)
      all_goals
       go_ret;exact ⟨by rw [HRR.1];simp [*],hV.1.1⟩
     by_cases k7:kind=7
     ·have HRR:Sh (R=(inI num 1 200&&(who==0))):=⟨by rw [HR.1];simp [k7]⟩
      subst k7;clear HR;go_wp2_with (go_at_call 44;refine (HIN.1 _ _ _ _).mono ?_;rintro r w1 ⟨rfl,rfl⟩)
      all_goals
       go_ret;exact ⟨by rw [HRR.1];simp [*],hV.1.1⟩
     by_cases k2:kind=2
     ·have HRR:Sh (R=((num==0)&&inI who 1 9)):=⟨by rw [HR.1];simp [k2]⟩
      subst k2;clear HR;go_wp2_with (go_at_call 44;refine (HIN.1 _ _ _ _).mono ?_;rintro r w1 ⟨rfl,rfl⟩)
      all_goals
       go_ret;exact ⟨by rw [HRR.1];simp [*],hV.1.1⟩
     by_cases k9:kind=9
     ·have HRR:Sh (R=((num==0)&&inI who 1 9)):=⟨by rw [HR.1];simp [k9]⟩
      subst k9;clear HR;go_wp2_with (go_at_call 44;refine (HIN.1 _ _ _ _).mono ?_;rintro r w1 ⟨rfl,rfl⟩)
      all_goals
       go_ret;exact ⟨by rw [HRR.1];simp [*],hV.1.1⟩
     have HRR:Sh (R=((num==0)&&(who==0))):=⟨by rw [HR.1];simp [k5,k6,k7,k2,k9]⟩;clear HR;have j5:(kind==5)=false:=by simp [k5]
     have j6:(kind==6)=false:=by simp [k6]
     have j7:(kind==7)=false:=by simp [k7]
     have j2:(kind==2)=false:=by simp [k2]
     have j9:(kind==9)=false:=by simp [k9]
     clear k5 k6 k7 k2 k9;go_wp2_with (go_at_call 44;refine (HIN.1 _ _ _ _).mono ?_;rintro r w1 ⟨rfl,rfl⟩)
     all_goals
      go_ret;exact ⟨by rw [HRR.1];simp [*],hV.1.1⟩
end
section
variable {e:EM} {b:Nat} {w w0:World}
def vb (n:Nat):ByteArray:=⟨(W.vt n).toArray⟩
def editT (e:EM):ByteArray:=⟨#[UInt8.ofNat e.kind.toNat,UInt8.ofNat e.who.toNat]⟩++vb e.path.size++e.path++vb e.dest.size++e.dest++vb e.num.toNat
theorem qft (h:qaq e=true):1<=e.kind/\e.kind<=10/\0<=e.who/\e.who<=9/\0<=e.num/\e.num<=1000:=by
 unfold qaq at h;rw [Bool.and_eq_true,inI_iff] at h;obtain ⟨⟨h1,h2⟩,h3⟩:=h;refine ⟨h1,h2,?_⟩
 by_cases h10:e.kind=10
 ·rw [if_pos h10] at h3
  simp only [Bool.and_eq_true,beq_iff_eq] at h3;omega
 ·rw [if_neg h10,Bool.and_eq_true] at h3
  have h4:=h3.2;unfold qlm at h4;split at h4
  ·rw [Bool.and_eq_true,inI_iff,beq_iff_eq] at h4;omega
  ·split at h4
   ·rw [Bool.and_eq_true,inI_iff,beq_iff_eq] at h4;omega
   ·split at h4
    ·rw [Bool.and_eq_true,inI_iff,beq_iff_eq] at h4;omega
    ·split at h4
     ·rw [Bool.and_eq_true,inI_iff,beq_iff_eq] at h4;omega
     ·rw [Bool.and_eq_true,beq_iff_eq,beq_iff_eq] at h4;omega
theorem qhk {p:Addr} {v:Value} (h:w.cell? p=some v):p.block<w.heap.size:=by
 by_cases c:p.block<w.heap.size
 ·exact c
 ·exfalso
  unfold World.cell? at h;rw [Array.getElem?_eq_none (by omega)] at h;simp at h
def EC (w0:World) (b:Nat) (e:EM) (w:World):Prop:=w.cell? ⟨b,0,none⟩=some (.int .i64 e.kind)/\w.cell? ⟨b,1,none⟩=some (.string e.path)/\w.cell? ⟨b,2,none⟩=some (.string e.dest)/\w.cell? ⟨b,3,none⟩=some (.int .i64 e.num)/\w.cell? ⟨b,4,none⟩=some (.int .i64 e.who)/\Sh (Below w0.heap.size w0 w)
theorem EC.below {w w':World} (h:EC w0 b e w) (hb:Below w.heap.size w w'):EC w0 b e w':=
 ⟨(hb.cell (p:=⟨b,0,none⟩) (qhk h.1)).trans h.1,(hb.cell (p:=⟨b,1,none⟩) (qhk h.2.1)).trans h.2.1,(hb.cell (p:=⟨b,2,none⟩) (qhk h.2.2.1)).trans h.2.2.1,(hb.cell (p:=⟨b,3,none⟩) (qhk h.2.2.2.1)).trans h.2.2.2.1,(hb.cell (p:=⟨b,4,none⟩) (qhk h.2.2.2.2.1)).trans h.2.2.2.2.1,⟨h.2.2.2.2.2.1.trans (hb.mono h.2.2.2.2.2.1.size)⟩⟩
theorem EC.drew (h:EC w0 b e w):EC w0 b e w.drew:=h.below zD
theorem two_cells (w:World) (b:Nat) (c1 c2:UInt8) (h0:w.cell? ⟨b,0,none⟩=some (.int .u8 (c1.toNat:Int))) (h1:w.cell? ⟨b,1,none⟩=some (.int .u8 (c2.toNat:Int))):(convert 144 9 (.slice (some ⟨b,0,none⟩) 2 2)).run Tryz.prog w = .ok (.string ⟨#[c1,c2]⟩) w:=by
 refine run_convert_bytes_back _ 144 9 5 ⟨b,0,none⟩ 2 [c1,c2] Tryz.underlying144 Tryz.underlying5 Tryz.underlying9 (fun j hj=>?_);have e:(⟨b,0,none⟩:Addr).add j=⟨b,j,none⟩:=by cases j <;> simp [Addr.add]
 rw [e]
 match j,hj with
 | 0,_=>exact h0
 | 1,_=>exact h1
theorem qnl (x y:World) (c1 c2:UInt8) (hy:Later (x.alloc (.cells #[.int .u8 (c1.toNat:Int),.int .u8 (c2.toNat:Int)] 5)) y):(convert 144 9 (.slice (some ⟨x.heap.size,0,none⟩) 2 2)).run Tryz.prog y = .ok (.string ⟨#[c1,c2]⟩) y:=
 two_cells _ _ c1 c2 ((Below.cell hy (p:=⟨x.heap.size,0,none⟩) (by simp)).trans (by rw [World.cell?_alloc_mark];rfl)) ((Below.cell hy (p:=⟨x.heap.size,1,none⟩) (by simp)).trans (by rw [World.cell?_alloc_mark];rfl))
theorem qmp (x:Int) (h0:0<=x) (h1:x<256):IntKind.u8.wrap x=((UInt8.ofNat x.toNat).toNat:Int):=by
 rw [IntKind.wrap_u8];simp;omega
theorem specEditText (e:EM) (w:World) (hf:EFit e):Calls Tryz.prog 52 #[ev e] w fun r w'=>r = .returned (.tuple #[.string (if qaq e then editT e else ⟨#[]⟩),.bool (qaq e)])/\Below w.heap.size w w':=by
 have HOK:=zS (fun W=>qln e W hf)
 cases hok:qaq e with
 | false =>
  rw [hok] at HOK;clear hok;obtain ⟨kind,path,dest,num,who⟩:=e;go_enter Tryz.func52,Tryz.ntmps52;go_wp2_with (go_at_call 43;refine (HOK.1 _).mono ?_;rintro e w1 ⟨rfl,hb1⟩);go_ret2
  exact ⟨rfl,(zB.alloc zL _).trans (hb1.mono (by simp))⟩
 | true =>
  rw [hok] at HOK;obtain ⟨n1,n2,n3,n4,n5,n6⟩:=qft hok;obtain ⟨f1,f2⟩:=hf;obtain ⟨kind,path,dest,num,who⟩:=e;dsimp only at *;clear hok;obtain ⟨n,rfl⟩:=Int.eq_ofNat_of_zero_le n5;have v1:=W.vt_len path.size;have v2:=W.vt_len dest.size;have v3:=W.vt_len n;have HV1:=zS (fun W=>qgv path.size W (by omega));have HV2:=zS (fun W=>qgv dest.size W (by omega));have HV3:=zS (fun W=>qgv n W (by omega));have hT:editT ⟨kind,path,dest,n,who⟩=⟨#[UInt8.ofNat kind.toNat,UInt8.ofNat who.toNat]⟩++(⟨(W.vt path.size).toArray⟩:ByteArray)++path++(⟨(W.vt dest.size).toArray⟩:ByteArray)++dest++(⟨(W.vt n).toArray⟩:ByteArray):=rfl;have t1:(⟨(W.vt path.size).toArray⟩:ByteArray).size<=2000000:=by show (W.vt path.size).toArray.size<=_;rw [List.size_toArray];omega
  have t2:(⟨(W.vt dest.size).toArray⟩:ByteArray).size<=2000000:=by show (W.vt dest.size).toArray.size<=_;rw [List.size_toArray];omega
  have t3:(⟨(W.vt n).toArray⟩:ByteArray).size<=2000000:=by show (W.vt n).toArray.size<=_;rw [List.size_toArray];omega
  have t0:(⟨#[UInt8.ofNat kind.toNat,UInt8.ofNat who.toNat]⟩:ByteArray).size<=2:=by simp [ByteArray.size]
  have hk:=qmp kind (by omega) (by omega);have hw:=qmp who (by omega) (by omega);generalize (⟨(W.vt path.size).toArray⟩:ByteArray)=V1 at HV1 hT t1;generalize (⟨(W.vt dest.size).toArray⟩:ByteArray)=V2 at HV2 hT t2;generalize (⟨(W.vt n).toArray⟩:ByteArray)=V3 at HV3 hT t3;obtain ⟨K,hK⟩:∃ K:ByteArray,K=⟨#[UInt8.ofNat kind.toNat,UInt8.ofNat who.toNat]⟩:=⟨_,rfl⟩;rw [<-hK] at hT t0;generalize UInt8.ofNat kind.toNat=k1 at hk hK;generalize UInt8.ofNat who.toNat=k2 at hw hK;have HK:=zS hK.symm;clear hK;rw [hT];have HQ1:Sh (¬ (9223372036854775807<K.size+V1.size)):=⟨by omega⟩;have HQ2:Sh (¬ (9223372036854775807<K.size+V1.size+path.size)):=⟨by omega⟩;have HQ3:Sh (¬ (9223372036854775807<K.size+V1.size+path.size+V2.size)):=⟨by omega⟩;have HQ4:Sh (¬ (9223372036854775807<K.size+V1.size+path.size+V2.size+dest.size)):=⟨by omega⟩;have HQ5:Sh (¬ (9223372036854775807<K.size+V1.size+path.size+V2.size+dest.size+V3.size)):=⟨by omega⟩;clear hT v1 v2 v3 t0 t1 t2 t3 n1 n2 n3 n4 n5 n6 f1 f2;go_enter Tryz.func52,Tryz.ntmps52;go_upto_region 3 with (go_at_call 43;refine (HOK.1 _).mono ?_;rintro e w1 ⟨rfl,hb1⟩;have hwc:=(qac w #[.int .i64 kind,.string path,.string dest,.int .i64 n,.int .i64 who] 47).grow hb1;have hbb:Below w.heap.size w w1:=(zB.alloc zL _).trans (hb1.mono (by simp));have HWC:=zS (And.intro hwc hbb);clear hb1 hwc hbb);have HEC:EC w w.heap.size ⟨kind,path,dest,n,who⟩ w1:=⟨(HWC.1.1.2 0 _ rfl).1,(HWC.1.1.2 1 _ rfl).1,(HWC.1.1.2 2 _ rfl).1,(HWC.1.1.2 3 _ rfl).1,(HWC.1.1.2 4 _ rfl).1,⟨HWC.1.2⟩⟩;clear HWC;have hS:=HEC;obtain ⟨c0,c1,c2,c3,c4,hB⟩:=HEC;dsimp only at c0 c1 c2 c3 c4;clear c0 c1 c2 c3 c4 hB;have HLE:Sh (∀ x,Later w1.drew x->EC w w.heap.size ⟨kind,path,dest,n,who⟩ x):=⟨fun x hx=>(EC.drew hS).below hx⟩
  refine qar (by kernel_rfl) ?_;refine wpL_v 0 rfl (fun x hx=>by go_simp;try with_reducible rfl) ?_
  try simp only [Act.put,qA,qB,qC]
  refine wpL_v 1 rfl (fun x hx=>by obtain ⟨c0,c1,c2,c3,c4,-⟩:=HLE.1 x hx;dsimp only at c0 c1 c2 c3 c4;go_simp;try with_reducible rfl) ?_
  try simp only [Act.put,qA,qB,qC]
  refine wpL_v 2 rfl (fun x hx=>by go_simp;try with_reducible rfl) ?_
  try simp only [Act.put,qA,qB,qC]
  refine wpL_v 3 rfl (fun x hx=>by go_simp;try with_reducible rfl) ?_
  try simp only [Act.put,qA,qB,qC]
  refine wpL_v 4 rfl (fun x hx=>by obtain ⟨c0,c1,c2,c3,c4,-⟩:=HLE.1 x hx;dsimp only at c0 c1 c2 c3 c4;go_simp;try with_reducible rfl) ?_
  try simp only [Act.put,qA,qB,qC]
  refine wpL_v 5 rfl (fun x hx=>by go_simp;try with_reducible rfl) ?_
  try simp only [Act.put,qA,qB,qC]
  refine wpL_v 8 rfl (fun x hx=>by go_simp;try with_reducible rfl) ?_
  try simp only [Act.put,qA,qB,qC]
  refine wpL_v 9 rfl (fun x hx=>by obtain ⟨c0,c1,c2,c3,c4,-⟩:=HLE.1 x hx;dsimp only at c0 c1 c2 c3 c4;go_simp;try with_reducible rfl) ?_
  try simp only [Act.put,qA,qB,qC]
  refine wpL_v 10 rfl (fun x hx=>by go_simp;try with_reducible rfl) ?_
  try simp only [Act.put,qA,qB,qC]
  refine qcq (i:=11) (v:=.string V1) (f:=92) (args:=#[.int .i64 (path.size:Nat)]) rfl (by kernel_rfl) (by kernel_rfl) (by kernel_rfl) (fun _ _ _ h=>h) (by rfl) ?hy11 (fun x _=>HV1.1 x) ?rest11
  case hy11=>(intro x hx;go_simp;try with_reducible rfl)
  try simp only [Act.put,qA,qB,qC]
  refine wpL_v 13 rfl (fun x hx=>by go_simp;try with_reducible rfl) ?_
  try simp only [Act.put,qA,qB,qC]
  refine wpL_v 14 rfl (fun x hx=>by obtain ⟨c0,c1,c2,c3,c4,-⟩:=HLE.1 x hx;dsimp only at c0 c1 c2 c3 c4;go_simp;try with_reducible rfl) ?_
  try simp only [Act.put,qA,qB,qC]
  refine wpL_v 16 rfl (fun x hx=>by go_simp;try with_reducible rfl) ?_
  try simp only [Act.put,qA,qB,qC]
  refine wpL_v 17 rfl (fun x hx=>by obtain ⟨c0,c1,c2,c3,c4,-⟩:=HLE.1 x hx;dsimp only at c0 c1 c2 c3 c4;go_simp;try with_reducible rfl) ?_
  try simp only [Act.put,qA,qB,qC]
  refine wpL_v 18 rfl (fun x hx=>by go_simp;try with_reducible rfl) ?_
  try simp only [Act.put,qA,qB,qC]
  refine qcq (i:=19) (v:=.string V2) (f:=92) (args:=#[.int .i64 (dest.size:Nat)]) rfl (by kernel_rfl) (by kernel_rfl) (by kernel_rfl) (fun _ _ _ h=>h) (by rfl) ?hy19 (fun x _=>HV2.1 x) ?rest19
  case hy19=>(intro x hx;go_simp;try with_reducible rfl)
  try simp only [Act.put,qA,qB,qC]
  refine wpL_v 21 rfl (fun x hx=>by go_simp;try with_reducible rfl) ?_
  try simp only [Act.put,qA,qB,qC]
  refine wpL_v 22 rfl (fun x hx=>by obtain ⟨c0,c1,c2,c3,c4,-⟩:=HLE.1 x hx;dsimp only at c0 c1 c2 c3 c4;go_simp;try with_reducible rfl) ?_
  try simp only [Act.put,qA,qB,qC]
  refine wpL_v 24 rfl (fun x hx=>by go_simp;try with_reducible rfl) ?_
  try simp only [Act.put,qA,qB,qC]
  refine wpL_v 25 rfl (fun x hx=>by obtain ⟨c0,c1,c2,c3,c4,-⟩:=HLE.1 x hx;dsimp only at c0 c1 c2 c3 c4;go_simp;try with_reducible rfl) ?_
  try simp only [Act.put,qA,qB,qC]
  refine qcq (i:=26) (v:=.string V3) (f:=92) (args:=#[.int .i64 n]) rfl (by kernel_rfl) (by kernel_rfl) (by kernel_rfl) (fun _ _ _ h=>h) (by rfl) ?hy26 (fun x _=>HV3.1 x) ?rest26
  case hy26=>(intro x hx;go_simp;try with_reducible rfl)
  try simp only [Act.put,qA,qB,qC]
  refine wpL_one (i:=6) (by kernel_rfl) rfl (by rfl) ?_;intro x hx;refine ⟨.slice (some ⟨x.heap.size,0,none⟩) 2 2,x.alloc (.cells #[.int .u8 (k1.toNat:Int),.int .u8 (k2.toNat:Int)] 5),?_,zB.alloc zL _,?_⟩
  ·go_simp
  have HX:Sh (∀ y,Later (x.alloc (.cells #[.int .u8 (k1.toNat:Int),.int .u8 (k2.toNat:Int)] 5)) y->(convert 144 9 (.slice (some ⟨x.heap.size,0,none⟩) 2 2)).run Tryz.prog y = .ok (.string K) y):=⟨fun y hy=>by
   rw [<-HK.1]
   exact qnl x y k1 k2 hy⟩
  try simp only [Act.put,qA,qB,qC]
  refine wpL_v 7 rfl (fun x hx=>by have hX:=HX.1 x hx;go_simp;try with_reducible rfl) ?_
  try simp only [Act.put,qA,qB,qC]
  refine wpL_v 12 rfl (fun x hx=>by have q:=HQ1.1;go_simp;try with_reducible rfl) ?_
  try simp only [Act.put,qA,qB,qC]
  refine wpL_v 15 rfl (fun x hx=>by have q:=HQ2.1;go_simp;try with_reducible rfl) ?_
  try simp only [Act.put,qA,qB,qC]
  refine wpL_v 20 rfl (fun x hx=>by have q:=HQ3.1;go_simp;try with_reducible rfl) ?_
  try simp only [Act.put,qA,qB,qC]
  refine wpL_v 23 rfl (fun x hx=>by have q:=HQ4.1;go_simp;try with_reducible rfl) ?_
  try simp only [Act.put,qA,qB,qC]
  refine wpL_v 27 rfl (fun x hx=>by have q:=HQ5.1;go_simp;try with_reducible rfl) ?_
  try simp only [Act.put,qA,qB,qC]
  refine wpL_v 28 rfl (fun x hx=>by go_simp;try with_reducible rfl) ?_
  try simp only [Act.put,qA,qB,qC]
  refine wpL_v 29 rfl (fun x hx=>by go_simp;try with_reducible rfl) ?_
  try simp only [Act.put,qA,qB,qC]
  refine qdd (by kernel_rfl) ?_ _;intro y hy;have HB:=(EC.below (HLE.1 x hx) (Later.trans (a:=x) (zB.alloc zL _) hy)).2.2.2.2.2;go_wp2_with fail;go_ret2
  exact ⟨rfl,HB.1⟩
end
theorem qoo (L:List (List UInt8)) (h:∀ l ∈ L,nameL l=true):((L.map (47::·)).flatten).length<=9*L.length:=by
 induction L with
 | nil=>simp
 | cons x L ih =>
  have h1:=(qkq (h x (by simp))).2;have h2:=ih fun l hl=>h l (by simp [hl]);simp only [List.map_cons,List.flatten_cons,List.length_append,List.length_cons];omega
theorem split_size {p:List UInt8} (h:(qcl p).2=true):p.length<=36:=by
 have e:=qlz h;obtain ⟨h1,h2⟩:=qhe (p:=p);rw [<-e];unfold joinP;split
 ·simp
 ·have:=qoo _ h1
  omega
theorem qbf (p:ByteArray):(qab p).1.size<=36/\(qab p).2.1.size<=8:=by
 unfold qab;split
 ·rename_i hc
  obtain ⟨h1,h2⟩:=qhe (p:=lb p);have hl:∀ l ∈ (qcl (lb p)).1.dropLast,nameL l=true:=fun l hl=>h1 l (List.dropLast_subset _ hl);have e:(splitB p).1=(qcl (lb p)).1.map ba:=rfl;dsimp only;refine ⟨?_,?_⟩
  ·have e2:((splitB p).1.dropLast.map lb)=(qcl (lb p)).1.dropLast:=by
    rw [e,List.dropLast_eq_take,List.dropLast_eq_take,List.length_map,<-List.map_take,qon]
   unfold joinB;rw [e2]
   show (joinP _).toArray.size<=36
   rw [List.size_toArray];unfold joinP;split
   ·simp
   ·have h3:=qoo _ hl
    rw [List.length_dropLast] at h3;omega
  ·have hne:=hc.2
   rcases List.eq_nil_or_concat (splitB p).1 with h0 | ⟨I,x,h0⟩
   ·exact absurd h0 hne
   ·rw [h0]
    have hx:x ∈ (splitB p).1:=by rw [h0];simp
    have hn:=(qcm p).1 x hx;have:=(qkq (l:=lb x) hn).2;have e3:(I++[x]).getLastD ⟨#[]⟩=x:=by simp [List.getLastD_eq_getLast?]
    rw [List.concat_eq_append,e3];exact this
 ·exact ⟨by decide,by decide⟩
end Go.Proofs.YtackbhpgdohimaaGreatDoor
