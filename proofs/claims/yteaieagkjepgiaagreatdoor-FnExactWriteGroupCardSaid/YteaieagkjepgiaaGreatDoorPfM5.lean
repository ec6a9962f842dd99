/- Texts of ours, laid one behind the other: SeO, SeP, SeQ, SeR, SeS, SeT, SeU, SeV, SeW. -/
import Derived.Test.YteaieagkjepgiaaGreatDoorPfM4
import Derived.Conc.CrowdComm
import Derived.Conc.Token
import Derived.Conc.TokenTrace
set_option linter.unusedVariables false
set_option linter.unusedSimpArgs false
/- . -/
namespace Go.Proofs.YteaieagkjepgiaaGreatDoor
set_option maxRecDepth 100000
open Go.Conc
inductive Sender (P:Program) (c:Nat):List Value->Goroutine->Prop
  | send {v:Value} {vs:List Value} {b g₂:Goroutine} {z:Value} (hr:b.status = .running) (hs:∀ w,stepG P false b w = .comm g₂ #[scase c v z] true .send w #[]) (hn:Sender P c vs (Go.Conc.served g₂ undef)):Sender P c (v::vs) b
  | close {b b':Goroutine} {n:Nat} (hr:b.status = .running) (hw:mayWake P b=true)
      (hs:∀ (w:World) (cap s r:Nat),w.heap[c]?=some (.chan cap #[] false s r false)->stepG P false b w = .go b' (w.setChan c cap #[] true s r false) (closeEvents c)) (hq:QuitsD P n 0 b'):Sender P c [] b
  | step {vs:List Value} {b:Goroutine} (N:World->Goroutine × Nat) (hr:b.status = .running) (hs:∀ w,stepG P false b w = .go (N w).1 (w.at (N w).2) #[]) (hn:∀ w,Sender P c vs (N w).1):Sender P c vs b
def Stb (c:Nat) (x:Goroutine):Prop:=x.status = .running\/x.status = .finished\/(∃ g z sh,x=parked g #[rcase c z] sh)\/∃ g v z sh,x=parked g #[scase c v z] sh
theorem woken_stb {P:Program} {c:Nat} {x g g':Goroutine} {w:World} {cap s r:Nat} {buf:Array Value} {tm:Bool} (h:Stb c x) (hc:w.heap[c]?=some (.chan cap buf false s r tm)):woken P g g' w x=x:=by
  rcases h with h | h | ⟨y,z,sh,rfl⟩ | ⟨y,v,z,sh,rfl⟩
  · unfold woken
    split
    · exact again_running _ (.inl h)
    · rfl
  · unfold woken
    split
    · exact again_running _ (.inr h)
    · rfl
  · exact woken_recv_open _ _ hc
  · exact woken_send_open _ _ hc
theorem map_woken {P:Program} {c:Nat} {gs:Array Goroutine} {g g':Goroutine} {w:World} {cap s r:Nat} {buf:Array Value} {tm:Bool} (h:∀ (i:Nat) (x:Goroutine),gs[i]?=some x->Stb c x) (hc:w.heap[c]?=some (.chan cap buf false s r tm)):gs.map (woken P g g' w)=gs:=by
  refine Array.ext_getElem? (fun i=>?_)
  rw [Array.getElem?_map]
  cases e:gs[i]? with
  | none=>rfl
  | some x=>simp [woken_stb (P:=P) (g:=g) (g':=g') (h i x e) hc]
def Mild2 (B:Nat) (op:MemOp):Prop:=op.act.touch?=none/\op.act ≠ .mark .disable/\op.act ≠ .mark .enable/\op.act.low B
theorem deaf_mild {B:Nat} {t:Trace} (g:Nat) (u:List MemOp) (h:∀ op ∈ u,Mild2 B op):Deaf (t++u.toArray) g=Deaf t g:=by
  refine Deaf_quiet (fun op hop d=>?_)
  obtain ⟨_,h2,h3,_⟩:=h op (by simpa using hop)
  unfold deafStep
  split
  · rename_i e;exact absurd e h2
  · rename_i e;exact absurd e h3
  · rfl
theorem past_mild {B:Nat}:∀ (u:List MemOp) (t:Trace),Past NoShun B t->(∀ op ∈ u,Mild2 B op)->Past NoShun B (t++u.toArray)
  | [],t,h,_=>by simpa using h
  | op::u,t,h,hu=>by
    have h1:=hu op (.head _)
    have hop:∀ x ∈ (#[op]:Array MemOp),x=op:=fun x hx=>by simpa using hx
    have step:Past NoShun B (t++#[op]):=by
      by_cases h0:op.g=0
      · refine h.app0 (fun x hx=>by rw [hop x hx];exact h0) (fun x hx b hb _=>by rw [hop x hx,h1.1] at hb;cases hb) ?_ (fun x hx=>by rw [hop x hx];exact h1.2.2.2)
        exact deaf_mild (B:=B) 0 [op] (fun x hx=>by rw [List.mem_singleton.1 hx];exact h1)
      · exact h.appMute h0 (fun x hx=>by rw [hop x hx]) (fun x hx=>by rw [hop x hx];exact h1.1) (fun x hx=>by rw [hop x hx];exact h1.2.2.2)
    have:=past_mild u (t++#[op]) step (fun x hx=>hu x (.tail _ hx))
    simpa using this
def NoW (t:Trace):Prop:=∀ i a,touchAt t i=some a->∀ r,a.loc = .obj r->a.write=false
theorem NoW.app {t u:Trace} (h:NoW t) (hu:∀ op ∈ u,∀ a,op.act.touch?=some a->∀ r,a.loc = .obj r->a.write=false):NoW (t++u):=by
  intro i a ha r hr
  obtain ⟨x,hx,hxa⟩:=touch_of ha
  rcases getElem?_append_cases hx with ⟨_,hx'⟩ | ⟨_,hxu⟩
  · exact h i a (by rw [touchAt_of hx'];exact hxa) r hr
  · exact hu x hxu a hxa r hr
theorem touch_quiet {e:Event} (hm:Mm e) {a:Touch} (ha:(MemAct.ofEvent e).touch?=some a):a.loc=e.loc/\a.write=e.write:=by
  exact ofEvent_touch (fun m hx=>hm.1 m hx) ha
def Pi (B:Nat) (t:Trace):Prop:=Past NoShun B t/\NoW t
theorem keeps_pi:Keeps Pi:=by
  refine ⟨fun {B t i fn pos es} h hi hm=>⟨h.1.mute hi hm,h.2.app (fun op hop a ha=>?_)⟩,fun {B B' t fn pos es} h hB hq hl=>⟨keeps_past.own h.1 hB hq hl,h.2.app (fun op hop a ha r hr=>?_)⟩⟩
  · obtain ⟨e,he,rfl⟩:=Go.Conc.mem_ofEvents hop
    rw [touch_mute (hm e he)] at ha
    cases ha
  · obtain ⟨e,he,rfl⟩:=Go.Conc.mem_ofEvents hop
    obtain ⟨l1,l2⟩:=touch_quiet (hq e he) ha
    rw [l2]
    exact (hq e he).2 r (l1 ▸ hr)
theorem pi_mild {B:Nat} {t:Trace} (u:List MemOp) (h:Pi B t) (hu:∀ op ∈ u,Mild2 B op):Pi B (t++u.toArray):=
  ⟨past_mild u t h.1 hu,h.2.app (fun op hop a ha=>by rw [(hu op (by simpa using hop)).1] at ha;cases ha)⟩
end Go.Proofs.YteaieagkjepgiaaGreatDoor
/- . -/
namespace Go.Proofs.YteaieagkjepgiaaGreatDoor
set_option maxRecDepth 100000
open Go.Conc
open Go.ConcN (sumTo upd sumTo_upd upd_ne upd_same)
structure Af (P:Program) (c j:Nat) (gs:Array Goroutine) (t:Trace) (q:Nat->Nat) (B:Nat):Prop where
  old:∀ (i:Nat) (x:Goroutine),0<i->i ≠ j->gs[i]?=some x->QuitsD P (q i) (Deaf t i) x
  above:∀ i,gs.size<=i->Deaf t i=0
  hear:Deaf t j=0
  j0:0<j
  past:Pi B t
  cB:c<B
def SC (P:Program) (c:Nat) (vs:List Value) (b:Goroutine):Prop:=
  Sender P c vs b\/∃ v vs' g₂ z,vs=v::vs'/\b=parked g₂ #[scase c v z] .send/\Sender P c vs' (Go.Conc.served g₂ undef)
abbrev Open (c s r:Nat) (w:World):Prop:=w.heap[c]?=some (.chan 0 #[] false s r false)
section
variable {P:Program} {c j:Nat} {gs:Array Goroutine} {t:Trace} {q:Nat->Nat} {B:Nat} {a b:Goroutine}
theorem Af.stb (h:Af P c j gs t q B) (ha:gs[0]?=some a) (hb:gs[j]?=some b) (sa:Stb c a) (sb:Stb c b):∀ (i:Nat) (x:Goroutine),gs[i]?=some x->Stb c x:=by
  intro i x hx
  rcases Nat.eq_zero_or_pos i with rfl | hp
  · rw [ha] at hx;cases hx;exact sa
  · by_cases e:i=j
    · subst e;rw [hb] at hx;cases hx;exact sb
    · exact (h.old i x hp e hx).status.elim .inl (fun y=>.inr (.inl y))
theorem Stb.awake {x:Goroutine} (h:Stb c x):awake x:=by
  refine awake_of ?_
  rcases h with h | h | ⟨_,_,_,rfl⟩ | ⟨_,_,_,_,rfl⟩
  · exact .inl h
  · exact .inr (.inr h)
  · exact .inr (.inl rfl)
  · exact .inr (.inl rfl)
theorem Af.slip (h:Af P c j gs t q B) {i:Nat} {x:Goroutine} {w:World} {sl:Option (Nat × Nat)} {s r:Nat} (hi:gs[i]?=some x) (h0:i ≠ 0) (hj:i ≠ j) (hr:x.status = .running) (hst:∀ (i:Nat) (x:Goroutine),gs[i]?=some x->Stb c x) (hc:Open c s r w) :
    ∃ gs' t' q',runT P (crowd gs w sl) i=(.next (crowd gs' w sl),t')/\gs'.size=gs.size/\gs'[0]?=gs[0]?/\gs'[j]?=gs[j]?/\Af P c j gs' (t++t') q' B/\sumTo gs'.size q'<sumTo gs.size q:=by
  have hq:=h.old i x (by omega) hj hi
  have hlt:i<gs.size:=(Array.getElem?_eq_some_iff.1 hi).1
  have hi0:(i==0)=false:=by simp [h0]
  cases hqi:q i with
  | zero=>rw [hqi] at hq;rw [hq.1] at hr;cases hr
  | succ k =>
    rw [hqi] at hq
    rcases hq with ⟨hf,_⟩ | ⟨_,g',es,hm,hstp,hq'⟩
    · rw [hf] at hr;cases hr
    have hrunT:=runT_crowd_go (P:=P) (sl:=sl) (i:=i) hi (by rw [hi0];exact hstp w)
    rw [map_woken hst hc] at hrunT
    have hsum:sumTo gs.size (upd q i k)+(k+1)=sumTo gs.size q+k:=by
      have:=sumTo_upd q k id hlt
      simpa [hqi] using this
    have ho:∀ op ∈ MemOp.ofEvents i x.frame.fn x.frame.place es,op.g=i:=fun op hop=>by obtain ⟨e,_,rfl⟩:=Go.Conc.mem_ofEvents hop;rfl
    refine ⟨_,_,upd q i k,hrunT,by simp,by rw [Array.getElem?_setIfInBounds_ne (by omega)],by rw [Array.getElem?_setIfInBounds_ne hj],⟨fun k' y hk hkj hy=>?_,fun k' hk=>?_,?_,h.j0,keeps_pi.mute h.past h0 hm,h.cB⟩,by simp;omega⟩
    · by_cases e:i=k'
      · subst e
        rw [Array.getElem?_setIfInBounds_self_of_lt hlt] at hy
        cases hy
        rw [upd_same,Deaf_own]
        exact hq'
      · rw [Array.getElem?_setIfInBounds_ne e] at hy
        rw [upd_ne q k (Ne.symm e),Deaf_other t e _ ho]
        exact h.old k' y hk hkj hy
    · rw [Deaf_other t (g':=i) (by simp at hk;omega) _ ho]
      exact h.above k' (by simpa using hk)
    · rw [Deaf_other t hj _ ho]
      exact h.hear
end
end Go.Proofs.YteaieagkjepgiaaGreatDoor
/- . -/
namespace Go.Proofs.YteaieagkjepgiaaGreatDoor
set_option maxRecDepth 100000
open Go.Conc
open Go.ConcN (sumTo upd sumTo_upd upd_ne upd_same)
theorem Win.step {P:Program} {Post:Value->World->Prop} {gs gs':Array Goroutine} {w w':World} {sl sl':Option (Nat × Nat)} {t ops:Trace} (h:stepT P (crowd gs w sl)=(.next (crowd gs' w' sl'),ops)) (k:Win P Post gs' w' sl' (t++ops)):Win P Post gs w sl t:=
  Win.of (K:=1) (by simp only [runNT,h]) k
section
variable {P:Program} {c j:Nat} {gs:Array Goroutine} {t:Trace} {q:Nat->Nat} {B:Nat} {a b:Goroutine} {vs:List Value} {Post:Value->World->Prop}
theorem Af.gen (h:Af P c j gs t q B) {gs':Array Goroutine} {u:Trace} {B':Nat} (hsz:gs'.size=gs.size) (hk:∀ k,k ≠ 0->k ≠ j->gs'[k]?=gs[k]?) (hB:B<=B') (hp:Pi B' (t++u)) (hd:∀ k,k ≠ 0->Deaf (t++u) k=Deaf t k):Af P c j gs' (t++u) q B':=by
  refine ⟨fun k y h0 hkj hy=>?_,fun k hk'=>?_,?_,h.j0,hp,Nat.lt_of_lt_of_le h.cB hB⟩
  · rw [hk k (by omega) hkj] at hy
    rw [hd k (by omega)]
    exact h.old k y h0 hkj hy
  · rw [hsz] at hk'
    by_cases e:k=0
    · subst e
      exact hp.1.hears
    · rw [hd k e]
      exact h.above k hk'
  · rw [hd j (by have:=h.j0;omega)]
    exact h.hear
theorem Af.own0 (h:Af P c j gs t q B) {a':Goroutine} {fn:FuncId} {pos:String} {es:Array Event} (hq:Quietly es):∃ B',Af P c j (gs.setIfInBounds 0 a') (t++MemOp.ofEvents 0 fn pos es) q B':=by
  obtain ⟨B',hB,hlow⟩:=low_all es B
  exact ⟨B',h.gen (by simp) (fun k hk _=>by rw [Array.getElem?_setIfInBounds_ne (by omega)]) hB (keeps_pi.own h.past hB hq hlow) (fun k hk=>Deaf_other t (g':=0) (by omega) _ (fun op hop=>by obtain ⟨e,_,rfl⟩:=Go.Conc.mem_ofEvents hop;rfl))⟩
theorem part_nil (h:Af P c j gs t q B) {i:Nat} {send:Bool} (h0:∀ x,i ≠ 0->gs[0]?=some x->offersAt x c send=[]) (hj:∀ x,i ≠ j->gs[j]?=some x->offersAt x c send=[]):partners (gs.setIfInBounds i ph) c send=[]:=by
  refine partners_nil (fun k x hx=>?_)
  by_cases e:i=k
  · subst e
    by_cases hl:i<gs.size
    · rw [Array.getElem?_setIfInBounds_self_of_lt hl] at hx
      cases hx
      rfl
    · rw [Array.getElem?_eq_none (by simpa using hl)] at hx
      cases hx
  · rw [Array.getElem?_setIfInBounds_ne e] at hx
    rcases Nat.eq_zero_or_pos k with rfl | hp
    · exact h0 x e hx
    · by_cases e':k=j
      · subst e';exact hj x e hx
      · exact offersAt_of_not_blocked (by rcases (h.old k x hp e' hx).status with y | y <;> rw [y] <;> simp) _ _
theorem part_one (h:Af P c j gs t q B) {i k:Nat} {x:Goroutine} {send:Bool} (hik:i ≠ k) (hk:k=0\/k=j) (hi:i=0\/i=j) (hx:gs[k]?=some x) (ho:offersAt x c send=[0]):partners (gs.setIfInBounds i ph) c send=[(k,0)]:=by
  have:=h.j0
  rw [partners_one (j:=k) (g:=x) (by rw [Array.getElem?_setIfInBounds_ne hik];exact hx) (fun m y hm hy=>?_),ho]
  · rfl
  · by_cases e:i=m
    · subst e
      by_cases hl:i<gs.size
      · rw [Array.getElem?_setIfInBounds_self_of_lt hl] at hy
        cases hy
        rfl
      · rw [Array.getElem?_eq_none (by simpa using hl)] at hy
        cases hy
    · rw [Array.getElem?_setIfInBounds_ne e] at hy
      have hm0:m ≠ 0:=by rcases hk with rfl | rfl <;> rcases hi with rfl | rfl <;> omega
      have hmj:m ≠ j:=by rcases hk with rfl | rfl <;> rcases hi with rfl | rfl <;> omega
      exact offersAt_of_not_blocked (by rcases (h.old m y (by omega) hmj hy).status with z | z <;> rw [z] <;> simp) _ _
theorem mild4 {f1 f2 f3 f4:FuncId} {p1 p2 p3 p4:String} {x y s r cap:Nat} (hc:c<B) :
    ∀ op ∈ ([{ g:=x,fn:=f1,pos:=p1,act:=.send c s },{ g:=y,fn:=f2,pos:=p2,act:=.recv c r cap },{ g:=x,fn:=f3,pos:=p3,act:=.sendDone c s },{ g:=y,fn:=f4,pos:=p4,act:=.recvDone c r }]:List MemOp),Mild2 B op:=by
  intro op hop
  simp only [List.mem_cons,List.mem_singleton,List.not_mem_nil,or_false] at hop
  rcases hop with rfl | rfl | rfl | rfl <;> exact ⟨rfl,by simp,by simp,hc⟩
theorem Af.mild (h:Af P c j gs t q B) {gs':Array Goroutine} {u:List MemOp} (hsz:gs'.size=gs.size) (hk:∀ k,k ≠ 0->k ≠ j->gs'[k]?=gs[k]?) (hu:∀ op ∈ u,Mild2 B op):Af P c j gs' (t++u.toArray) q B:=
  h.gen hsz hk (Nat.le_refl _) (pi_mild u h.past hu) (fun k _=>deaf_mild k u hu)
def Kid (P:Program) (Post:Value->World->Prop) (c j:Nat) (a:Goroutine) (vs:List Value) (w:World):Prop:=
  ∀ (gs:Array Goroutine) (t:Trace) (q:Nat->Nat) (B:Nat) (sl:Option (Nat × Nat)) (b:Goroutine),Af P c j gs t q B->gs[0]?=some a->gs[j]?=some b->SC P c vs b->Win P Post gs w sl t
end
end Go.Proofs.YteaieagkjepgiaaGreatDoor
/- . -/
namespace Go.Proofs.YteaieagkjepgiaaGreatDoor
set_option maxRecDepth 100000
open Go.Conc
open Go.ConcN (sumTo upd sumTo_upd upd_ne upd_same)
section
variable {P:Program} {c j:Nat} {a:Goroutine} {vs:List Value} {Post:Value->World->Prop} {Wk:World->Prop}
def Shutw (P:Program) (Post:Value->World->Prop) (c j:Nat) (x:Goroutine) (w:World):Prop:=
  ∀ (gs:Array Goroutine) (t:Trace) (q:Nat->Nat) (B n:Nat) (sl:Option (Nat × Nat)) (b':Goroutine) (fn:FuncId) (pos:String),Af P c j gs t q B->gs[0]?=some x->gs[j]?=some b'->QuitsD P n 0 b'->Win P Post gs w sl (t++MemOp.ofEvents j fn pos (closeEvents c))
def Does (P:Program) (Post:Value->World->Prop) (c j:Nat) (a:Goroutine) (vs:List Value) (Wk:World->Prop):Prop:=
  (∀ (w:World) (s r:Nat),Wk w->Open c s r w->∃ a' w' es,stepG P true a w = .go a' w' es/\Quietly es/\Open c s r w'/\Kid P Post c j a' vs w') \/
  (∃ z,(∀ w,stepG P true a w = .comm a #[rcase c z] true (.recv true) w #[]) /\
    (∀ v vs',vs=v::vs'->∀ (w:World) (s r:Nat),Wk w->Open c s r w->Kid P Post c j (Go.Conc.served a (.tuple #[v,.bool true])) vs' (w.setChan c 0 #[] false (s+1) (r+1) false)) /\
    (vs=[]->∀ (w:World) (s r:Nat),Wk w->Open c s r w->Shutw P Post c j { parked a #[rcase c z] (.recv true) with status:=.running } (w.setChan c 0 #[] true s r false)))
theorem spark (ha:a.status = .running) (hWd:∀ w d,Wk w->Wk (w.at d)) (hD:Does P Post c j a vs Wk) {v z₂:Value} {vs':List Value} {g₂:Goroutine} (hv:vs=v::vs') (hn:Sender P c vs' (Go.Conc.served g₂ undef)) :
    ∀ (M:Nat) (gs:Array Goroutine) (w:World) (s r:Nat) (t:Trace) (q:Nat->Nat) (B:Nat) (sl:Option (Nat × Nat)),sumTo gs.size q=M->Af P c j gs t q B->gs[0]?=some a->gs[j]?=some (parked g₂ #[scase c v z₂] .send)->Wk w->Open c s r w->Win P Post gs w sl t:=by
  intro M
  induction M using Nat.strongRecOn with
  | _ M ih =>
    intro gs w s r t q B sl hM hA h0 hj hW hc
    have hjp:=hA.j0
    have hstb:=hA.stb h0 hj (.inl ha) (.inr (.inr (.inr ⟨_,_,_,_,rfl⟩)))
    have haw:∀ x ∈ gs,awake x:=fun x hx=>by
      obtain ⟨i,hi,rfl⟩:=Array.mem_iff_getElem.1 hx
      exact (hstb i _ (Array.getElem?_eq_getElem hi)).awake
    obtain ⟨i,x,d,sl',hi,hx,hst⟩:=crowd_pick (P:=P) (w:=w) (sl:=sl) haw ⟨0,a,h0,ha⟩
    have hlt:0<gs.size:=(Array.getElem?_eq_some_iff.1 h0).1
    have hjl:j<gs.size:=(Array.getElem?_eq_some_iff.1 hj).1
    by_cases e0:i=0
    · subst e0
      obtain rfl:x=a:=by rw [h0] at hi;exact (Option.some.inj hi).symm
      rcases hD with hord | ⟨z,hcm,hmeet,_⟩
      · obtain ⟨a',w',es,e,hq,hc',hk⟩:=hord (w.at d) s r (hWd w d hW) hc
        have hrunT:=runT_crowd_go (P:=P) (sl:=sl') (i:=0) hi (show stepG P (0==0) x (w.at d)=_ from e)
        rw [map_woken hstb hc'] at hrunT
        obtain ⟨B',hA'⟩:=hA.own0 (a':=a') (fn:=x.frame.fn) (pos:=x.frame.place) hq
        exact Win.step (hst.trans hrunT) (hk _ _ _ _ _ _ hA' (by rw [Array.getElem?_setIfInBounds_self_of_lt hlt]) (by rw [Array.getElem?_setIfInBounds_ne (by omega)];exact hj) (.inr ⟨v,vs',g₂,z₂,hv,rfl,hn⟩))
      · have hp:=part_one hA (i:=0) (k:=j) (send:=true) (by omega) (.inr rfl) (.inl rfl) hj (by rw [offersAt_parked_send];simp)
        have hrunT:=crowd_recv_meets (P:=P) (sl:=sl') (i:=0) (j:=j) hi (show stepG P (0==0) x (w.at d)=_ from hcm (w.at d)) hc (by omega) hj hp
        rw [finishComm_send,finishComm_recv] at hrunT
        refine Win.step (hst.trans hrunT) ?_
        have hu:=mild4 (c:=c) (B:=B) (x:=j) (y:=0) (s:=s) (r:=r) (cap:=0) (f1:=g₂.frame.fn) (f2:=x.frame.fn) (f3:=g₂.frame.fn) (f4:=x.frame.fn) (p1:=g₂.frame.place) (p2:=x.frame.place) (p3:=g₂.frame.place) (p4:=x.frame.place) hA.cB
        have hA':=hA.mild (gs':=(gs.setIfInBounds j (Go.Conc.served g₂ undef)).setIfInBounds 0 (Go.Conc.served x (recvd true v true))) (by simp) (fun k hk hkj=>by rw [Array.getElem?_setIfInBounds_ne (by omega),Array.getElem?_setIfInBounds_ne (by omega)]) hu
        have:=hmeet v vs' hv (w.at d) s r (hWd w d hW) hc _ _ _ _ sl' _ hA' (by rw [Array.getElem?_setIfInBounds_self_of_lt (by simpa using hlt)];rfl) (by rw [Array.getElem?_setIfInBounds_ne (by omega),Array.getElem?_setIfInBounds_self_of_lt hjl]) (.inl hn)
        simpa [MemOp.ofEvents] using this
    · by_cases ej:i=j
      · subst ej
        rw [hj] at hi
        cases hi
        cases hx
      · obtain ⟨gs',t',q',hr,hsz,h0',hj',hA',hlt'⟩:=hA.slip (sl:=sl') (w:=w.at d) hi e0 ej hx hstb hc
        exact Win.step (hst.trans hr) (ih _ (by omega) gs' (w.at d) s r _ q' B sl' rfl hA' (h0'.trans h0) (hj'.trans hj) (hWd w d hW) hc)
theorem rpark {z:Value} (ha:a.status = .running) (hWd:∀ w d,Wk w->Wk (w.at d)) (hcm:∀ w,stepG P true a w = .comm a #[rcase c z] true (.recv true) w #[])
    (hmeet:∀ v vs',vs=v::vs'->∀ (w:World) (s r:Nat),Wk w->Open c s r w->Kid P Post c j (Go.Conc.served a (.tuple #[v,.bool true])) vs' (w.setChan c 0 #[] false (s+1) (r+1) false))
    (hsh:vs=[]->∀ (w:World) (s r:Nat),Wk w->Open c s r w->Shutw P Post c j { parked a #[rcase c z] (.recv true) with status:=.running } (w.setChan c 0 #[] true s r false)) {b:Goroutine} (hS:Sender P c vs b) :
    ∀ (M:Nat) (gs:Array Goroutine) (w:World) (s r:Nat) (t:Trace) (q:Nat->Nat) (B:Nat) (sl:Option (Nat × Nat)),sumTo gs.size q=M->Af P c j gs t q B->gs[0]?=some (parked a #[rcase c z] (.recv true))->gs[j]?=some b->Wk w->Open c s r w->Win P Post gs w sl t:=by
  induction hS with
  | @send v vs' b g₂ z₂ hr hs hn _ =>
    intro M
    induction M using Nat.strongRecOn with
    | _ M ih =>
      intro gs w s r t q B sl hM hA h0 hj hW hc
      have hjp:=hA.j0
      have hstb:=hA.stb h0 hj (.inr (.inr (.inl ⟨_,_,_,rfl⟩))) (.inl hr)
      have haw:∀ x ∈ gs,awake x:=fun x hx=>by
        obtain ⟨i,hi,rfl⟩:=Array.mem_iff_getElem.1 hx
        exact (hstb i _ (Array.getElem?_eq_getElem hi)).awake
      obtain ⟨i,x,d,sl',hi,hx,hst⟩:=crowd_pick (P:=P) (w:=w) (sl:=sl) haw ⟨j,b,hj,hr⟩
      have hlt:0<gs.size:=(Array.getElem?_eq_some_iff.1 h0).1
      have hjl:j<gs.size:=(Array.getElem?_eq_some_iff.1 hj).1
      by_cases e0:i=0
      · subst e0
        rw [h0] at hi
        cases hi
        cases hx
      · by_cases ej:i=j
        · subst ej
          obtain rfl:x=b:=by rw [hj] at hi;exact (Option.some.inj hi).symm
          have hi0:(i==0)=false:=by simp [e0]
          have hp:=part_one hA (i:=i) (k:=0) (send:=false) e0 (.inl rfl) (.inr rfl) h0 (by rw [offersAt_parked_recv];simp)
          have hrunT:=crowd_send_meets (P:=P) (sl:=sl') (i:=i) (j:=0) hi (by rw [hi0];exact hs (w.at d)) (show (w.at d).heap[c]?=_ from hc) (by omega) h0 hp
          rw [finishComm_send,finishComm_recv] at hrunT
          refine Win.step (hst.trans hrunT) ?_
          have hu:=mild4 (c:=c) (B:=B) (x:=i) (y:=0) (s:=s) (r:=r) (cap:=0) (f1:=g₂.frame.fn) (f2:=a.frame.fn) (f3:=g₂.frame.fn) (f4:=a.frame.fn) (p1:=g₂.frame.place) (p2:=a.frame.place) (p3:=g₂.frame.place) (p4:=a.frame.place) hA.cB
          have hA':=hA.mild (gs':=(gs.setIfInBounds 0 (Go.Conc.served a (recvd true v true))).setIfInBounds i (Go.Conc.served g₂ undef)) (by simp) (fun k hk hkj=>by rw [Array.getElem?_setIfInBounds_ne (by omega),Array.getElem?_setIfInBounds_ne (by omega)]) hu
          have:=hmeet v vs' rfl (w.at d) s r (hWd w d hW) hc _ _ _ _ sl' _ hA' (by rw [Array.getElem?_setIfInBounds_ne e0,Array.getElem?_setIfInBounds_self_of_lt hlt];rfl) (by rw [Array.getElem?_setIfInBounds_self_of_lt (by simpa using hjl)]) (.inl hn)
          simpa [MemOp.ofEvents] using this
        · obtain ⟨gs',t',q',hr',hsz,h0',hj',hA',hlt'⟩:=hA.slip (sl:=sl') (w:=w.at d) hi e0 ej hx hstb hc
          exact Win.step (hst.trans hr') (ih _ (by omega) gs' (w.at d) s r _ q' B sl' rfl hA' (h0'.trans h0) (hj'.trans hj) (hWd w d hW) hc)
  | @close b b' n hr hwk hs hq =>
    intro M
    induction M using Nat.strongRecOn with
    | _ M ih =>
      intro gs w s r t q B sl hM hA h0 hj hW hc
      have hjp:=hA.j0
      have hstb:=hA.stb h0 hj (.inr (.inr (.inl ⟨_,_,_,rfl⟩))) (.inl hr)
      have haw:∀ x ∈ gs,awake x:=fun x hx=>by
        obtain ⟨i,hi,rfl⟩:=Array.mem_iff_getElem.1 hx
        exact (hstb i _ (Array.getElem?_eq_getElem hi)).awake
      obtain ⟨i,x,d,sl',hi,hx,hst⟩:=crowd_pick (P:=P) (w:=w) (sl:=sl) haw ⟨j,b,hj,hr⟩
      have hlt:0<gs.size:=(Array.getElem?_eq_some_iff.1 h0).1
      have hjl:j<gs.size:=(Array.getElem?_eq_some_iff.1 hj).1
      by_cases e0:i=0
      · subst e0
        rw [h0] at hi
        cases hi
        cases hx
      · by_cases ej:i=j
        · subst ej
          obtain rfl:x=b:=by rw [hj] at hi;exact (Option.some.inj hi).symm
          have hi0:(i==0)=false:=by simp [e0]
          have hrunT:=runT_crowd_go (P:=P) (sl:=sl') (i:=i) hi (by rw [hi0];exact hs (w.at d) 0 s r hc)
          refine Win.step (hst.trans hrunT) ?_
          have hc2:((w.at d).setChan c 0 #[] true s r false).heap[c]?=some (.chan 0 #[] true s r false):=by
            have hcl:c<w.heap.size:=(Array.getElem?_eq_some_iff.1 hc).1
            show (w.heap.setIfInBounds c _)[c]?=_
            rw [Array.getElem?_setIfInBounds_self_of_lt hcl]
          have hb':∀ o,woken P x b' ((w.at d).setChan c 0 #[] true s r false) o=o.again ((w.at d).setChan c 0 #[] true s r false):=by
            intro o
            unfold woken
            rcases hq.status with h | h <;> simp [hwk,h]
          have hA':Af P c i ((gs.map (woken P x b' ((w.at d).setChan c 0 #[] true s r false))).setIfInBounds i b') t q B:=by
            refine ⟨fun k y hk hkj hy=>?_,fun k hk=>hA.above k (by simpa using hk),hA.hear,hA.j0,hA.past,hA.cB⟩
            rw [Array.getElem?_setIfInBounds_ne (by omega),Array.getElem?_map] at hy
            obtain ⟨y',hy',rfl⟩:=Option.map_eq_some_iff.1 hy
            have hqy:=hA.old k y' hk hkj hy'
            rw [woken_quitsD hqy]
            exact hqy
          refine hsh rfl (w.at d) s r (hWd w d hW) hc _ _ _ _ n sl' b' _ _ hA' ?_ ?_ hq
          · rw [Array.getElem?_setIfInBounds_ne e0,Array.getElem?_map,h0,Option.map_some,hb',again_recv_closed hc2]
          · rw [Array.getElem?_setIfInBounds_self_of_lt (by simpa using hjl)]
        · obtain ⟨gs',t',q',hr',hsz,h0',hj',hA',hlt'⟩:=hA.slip (sl:=sl') (w:=w.at d) hi e0 ej hx hstb hc
          exact Win.step (hst.trans hr') (ih _ (by omega) gs' (w.at d) s r _ q' B sl' rfl hA' (h0'.trans h0) (hj'.trans hj) (hWd w d hW) hc)
  | @step vs b N hr hs hn ihS =>
    intro M
    induction M using Nat.strongRecOn with
    | _ M ih =>
      intro gs w s r t q B sl hM hA h0 hj hW hc
      have hjp:=hA.j0
      have hstb:=hA.stb h0 hj (.inr (.inr (.inl ⟨_,_,_,rfl⟩))) (.inl hr)
      have haw:∀ x ∈ gs,awake x:=fun x hx=>by
        obtain ⟨i,hi,rfl⟩:=Array.mem_iff_getElem.1 hx
        exact (hstb i _ (Array.getElem?_eq_getElem hi)).awake
      obtain ⟨i,x,d,sl',hi,hx,hst⟩:=crowd_pick (P:=P) (w:=w) (sl:=sl) haw ⟨j,b,hj,hr⟩
      have hjl:j<gs.size:=(Array.getElem?_eq_some_iff.1 hj).1
      by_cases e0:i=0
      · subst e0
        rw [h0] at hi
        cases hi
        cases hx
      · by_cases ej:i=j
        · subst ej
          obtain rfl:x=b:=by rw [hj] at hi;exact (Option.some.inj hi).symm
          have hi0:(i==0)=false:=by simp [e0]
          have hrunT:=runT_crowd_go (P:=P) (sl:=sl') (i:=i) hi (by rw [hi0];exact hs (w.at d))
          rw [map_woken hstb (show Open c s r ((w.at d).at (N (w.at d)).2) from hc)] at hrunT
          have hA':=hA.gen (gs':=gs.setIfInBounds i (N (w.at d)).1) (u:=#[]) (by simp) (fun k hk hkj=>by rw [Array.getElem?_setIfInBounds_ne (by omega)]) (Nat.le_refl _) (by simpa using hA.past) (fun k _=>by simp)
          refine Win.step (hst.trans hrunT) ?_
          have:=ihS (w.at d) hmeet hsh _ (gs.setIfInBounds i (N (w.at d)).1) ((w.at d).at (N (w.at d)).2) s r (t++#[]) q B sl' rfl hA' (by rw [Array.getElem?_setIfInBounds_ne e0];exact h0) (by rw [Array.getElem?_setIfInBounds_self_of_lt hjl]) (hWd (w.at d) _ (hWd w d hW)) hc
          simpa [MemOp.ofEvents] using this
        · obtain ⟨gs',t',q',hr',hsz,h0',hj',hA',hlt'⟩:=hA.slip (sl:=sl') (w:=w.at d) hi e0 ej hx hstb hc
          exact Win.step (hst.trans hr') (ih _ (by omega) gs' (w.at d) s r _ q' B sl' rfl hA' (h0'.trans h0) (hj'.trans hj) (hWd w d hW) hc)
end
end Go.Proofs.YteaieagkjepgiaaGreatDoor
/- . -/
namespace Go.Proofs.YteaieagkjepgiaaGreatDoor
set_option maxRecDepth 100000
open Go.Conc
open Go.ConcN (sumTo upd sumTo_upd upd_ne upd_same)
section
variable {P:Program} {c j:Nat} {a:Goroutine} {vs:List Value} {Post:Value->World->Prop} {Wk:World->Prop}
theorem rrun (ha:a.status = .running) (hWd:∀ w d,Wk w->Wk (w.at d)) (hD:Does P Post c j a vs Wk) (hclose:vs=[]->∀ (w:World) (s r:Nat),Wk w->Open c s r w->Shutw P Post c j a (w.setChan c 0 #[] true s r false)) {b:Goroutine} (hS:Sender P c vs b) :
    ∀ (M:Nat) (gs:Array Goroutine) (w:World) (s r:Nat) (t:Trace) (q:Nat->Nat) (B:Nat) (sl:Option (Nat × Nat)),sumTo gs.size q=M->Af P c j gs t q B->gs[0]?=some a->gs[j]?=some b->Wk w->Open c s r w->Win P Post gs w sl t:=by
  induction hS with
  | @send v vs' b g₂ z₂ hr hs hn _ =>
    intro M
    induction M using Nat.strongRecOn with
    | _ M ih =>
      intro gs w s r t q B sl hM hA h0 hj hW hc
      have hjp:=hA.j0
      have hstb:=hA.stb h0 hj (.inl ha) (.inl hr)
      have haw:∀ x ∈ gs,awake x:=fun x hx=>by
        obtain ⟨i,hi,rfl⟩:=Array.mem_iff_getElem.1 hx
        exact (hstb i _ (Array.getElem?_eq_getElem hi)).awake
      obtain ⟨i,x,d,sl',hi,hx,hst⟩:=crowd_pick (P:=P) (w:=w) (sl:=sl) haw ⟨0,a,h0,ha⟩
      have hlt:0<gs.size:=(Array.getElem?_eq_some_iff.1 h0).1
      have hjl:j<gs.size:=(Array.getElem?_eq_some_iff.1 hj).1
      by_cases e0:i=0
      · subst e0
        obtain rfl:x=a:=by rw [h0] at hi;exact (Option.some.inj hi).symm
        rcases hD with hord | ⟨z,hcm,hmeet,hsh⟩
        · obtain ⟨a',w',es,e,hq,hc',hk⟩:=hord (w.at d) s r (hWd w d hW) hc
          have hrunT:=runT_crowd_go (P:=P) (sl:=sl') (i:=0) hi (show stepG P (0==0) x (w.at d)=_ from e)
          rw [map_woken hstb hc'] at hrunT
          obtain ⟨B',hA'⟩:=hA.own0 (a':=a') (fn:=x.frame.fn) (pos:=x.frame.place) hq
          exact Win.step (hst.trans hrunT) (hk _ _ _ _ _ _ hA' (by rw [Array.getElem?_setIfInBounds_self_of_lt hlt]) (by rw [Array.getElem?_setIfInBounds_ne (by omega)];exact hj) (.inl (Sender.send hr hs hn)))
        · have hp:=part_nil hA (i:=0) (send:=true) (fun y h=>absurd rfl h) (fun y _ hy=>by rw [hj] at hy;cases hy;exact offersAt_of_not_blocked (by rw [hr];simp) _ _)
          have hrunT:=crowd_waits (P:=P) (sl:=sl') (i:=0) hi (show stepG P (0==0) x (w.at d)=_ from hcm (w.at d)) (fun cc hcc=>by
            rw [show cc=rcase c z by simpa using hcc]
            exact ways_recv_none (show (w.at d).heap[c]?=_ from hc) hp)
          have hA':=hA.gen (gs':=gs.setIfInBounds 0 (parked x #[rcase c z] (.recv true))) (u:=#[]) (by simp) (fun k hk hkj=>by rw [Array.getElem?_setIfInBounds_ne (by omega)]) (Nat.le_refl _) (by simpa using hA.past) (fun k _=>by simp)
          refine Win.step (hst.trans hrunT) ?_
          have:=rpark ha hWd hcm hmeet hsh (Sender.send hr hs hn) _ (gs.setIfInBounds 0 (parked x #[rcase c z] (.recv true))) (w.at d) s r (t++#[]) q B sl' rfl hA' (by rw [Array.getElem?_setIfInBounds_self_of_lt hlt]) (by rw [Array.getElem?_setIfInBounds_ne (by omega)];exact hj) (hWd w d hW) hc
          simpa [MemOp.ofEvents] using this
      · by_cases ej:i=j
        · subst ej
          obtain rfl:x=b:=by rw [hj] at hi;exact (Option.some.inj hi).symm
          have hi0:(i==0)=false:=by simp [e0]
          have hp:=part_nil hA (i:=i) (send:=false) (fun y _ hy=>by rw [h0] at hy;cases hy;exact offersAt_of_not_blocked (by rw [ha];simp) _ _) (fun y h=>absurd rfl h)
          have hrunT:=crowd_waits (P:=P) (sl:=sl') (i:=i) hi (by rw [hi0];exact hs (w.at d)) (fun cc hcc=>by
            rw [show cc=scase c v z₂ by simpa using hcc]
            exact ways_send_none (show (w.at d).heap[c]?=_ from hc) (Nat.le_refl _) hp)
          have hA':=hA.gen (gs':=gs.setIfInBounds i (parked g₂ #[scase c v z₂] .send)) (u:=#[]) (by simp) (fun k hk hkj=>by rw [Array.getElem?_setIfInBounds_ne (by omega)]) (Nat.le_refl _) (by simpa using hA.past) (fun k _=>by simp)
          refine Win.step (hst.trans hrunT) ?_
          have:=spark ha hWd hD rfl hn _ (gs.setIfInBounds i (parked g₂ #[scase c v z₂] .send)) (w.at d) s r (t++#[]) q B sl' rfl hA' (by rw [Array.getElem?_setIfInBounds_ne e0];exact h0) (by rw [Array.getElem?_setIfInBounds_self_of_lt hjl]) (hWd w d hW) hc
          simpa [MemOp.ofEvents] using this
        · obtain ⟨gs',t',q',hr',hsz,h0',hj',hA',hlt'⟩:=hA.slip (sl:=sl') (w:=w.at d) hi e0 ej hx hstb hc
          exact Win.step (hst.trans hr') (ih _ (by omega) gs' (w.at d) s r _ q' B sl' rfl hA' (h0'.trans h0) (hj'.trans hj) (hWd w d hW) hc)
  | @close b b' n hr hwk hs hqd =>
    intro M
    induction M using Nat.strongRecOn with
    | _ M ih =>
      intro gs w s r t q B sl hM hA h0 hj hW hc
      have hjp:=hA.j0
      have hstb:=hA.stb h0 hj (.inl ha) (.inl hr)
      have haw:∀ x ∈ gs,awake x:=fun x hx=>by
        obtain ⟨i,hi,rfl⟩:=Array.mem_iff_getElem.1 hx
        exact (hstb i _ (Array.getElem?_eq_getElem hi)).awake
      obtain ⟨i,x,d,sl',hi,hx,hst⟩:=crowd_pick (P:=P) (w:=w) (sl:=sl) haw ⟨0,a,h0,ha⟩
      have hlt:0<gs.size:=(Array.getElem?_eq_some_iff.1 h0).1
      have hjl:j<gs.size:=(Array.getElem?_eq_some_iff.1 hj).1
      by_cases e0:i=0
      · subst e0
        obtain rfl:x=a:=by rw [h0] at hi;exact (Option.some.inj hi).symm
        rcases hD with hord | ⟨z,hcm,hmeet,hsh⟩
        · obtain ⟨a',w',es,e,hq,hc',hk⟩:=hord (w.at d) s r (hWd w d hW) hc
          have hrunT:=runT_crowd_go (P:=P) (sl:=sl') (i:=0) hi (show stepG P (0==0) x (w.at d)=_ from e)
          rw [map_woken hstb hc'] at hrunT
          obtain ⟨B',hA'⟩:=hA.own0 (a':=a') (fn:=x.frame.fn) (pos:=x.frame.place) hq
          exact Win.step (hst.trans hrunT) (hk _ _ _ _ _ _ hA' (by rw [Array.getElem?_setIfInBounds_self_of_lt hlt]) (by rw [Array.getElem?_setIfInBounds_ne (by omega)];exact hj) (.inl (Sender.close hr hwk hs hqd)))
        · have hp:=part_nil hA (i:=0) (send:=true) (fun y h=>absurd rfl h) (fun y _ hy=>by rw [hj] at hy;cases hy;exact offersAt_of_not_blocked (by rw [hr];simp) _ _)
          have hrunT:=crowd_waits (P:=P) (sl:=sl') (i:=0) hi (show stepG P (0==0) x (w.at d)=_ from hcm (w.at d)) (fun cc hcc=>by
            rw [show cc=rcase c z by simpa using hcc]
            exact ways_recv_none (show (w.at d).heap[c]?=_ from hc) hp)
          have hA':=hA.gen (gs':=gs.setIfInBounds 0 (parked x #[rcase c z] (.recv true))) (u:=#[]) (by simp) (fun k hk hkj=>by rw [Array.getElem?_setIfInBounds_ne (by omega)]) (Nat.le_refl _) (by simpa using hA.past) (fun k _=>by simp)
          refine Win.step (hst.trans hrunT) ?_
          have:=rpark ha hWd hcm hmeet hsh (Sender.close hr hwk hs hqd) _ (gs.setIfInBounds 0 (parked x #[rcase c z] (.recv true))) (w.at d) s r (t++#[]) q B sl' rfl hA' (by rw [Array.getElem?_setIfInBounds_self_of_lt hlt]) (by rw [Array.getElem?_setIfInBounds_ne (by omega)];exact hj) (hWd w d hW) hc
          simpa [MemOp.ofEvents] using this
      · by_cases ej:i=j
        · subst ej
          obtain rfl:x=b:=by rw [hj] at hi;exact (Option.some.inj hi).symm
          have hi0:(i==0)=false:=by simp [e0]
          have hrunT:=runT_crowd_go (P:=P) (sl:=sl') (i:=i) hi (by rw [hi0];exact hs (w.at d) 0 s r hc)
          refine Win.step (hst.trans hrunT) ?_
          have hA':Af P c i ((gs.map (woken P x b' ((w.at d).setChan c 0 #[] true s r false))).setIfInBounds i b') t q B:=by
            refine ⟨fun k y hk hkj hy=>?_,fun k hk=>hA.above k (by simpa using hk),hA.hear,hA.j0,hA.past,hA.cB⟩
            rw [Array.getElem?_setIfInBounds_ne (by omega),Array.getElem?_map] at hy
            obtain ⟨y',hy',rfl⟩:=Option.map_eq_some_iff.1 hy
            have hqy:=hA.old k y' hk hkj hy'
            rw [woken_quitsD hqy]
            exact hqy
          refine hclose rfl (w.at d) s r (hWd w d hW) hc _ _ _ _ n sl' b' _ _ hA' ?_ ?_ hqd
          · rw [Array.getElem?_setIfInBounds_ne e0,Array.getElem?_map,h0,Option.map_some,woken_run ha]
          · rw [Array.getElem?_setIfInBounds_self_of_lt (by simpa using hjl)]
        · obtain ⟨gs',t',q',hr',hsz,h0',hj',hA',hlt'⟩:=hA.slip (sl:=sl') (w:=w.at d) hi e0 ej hx hstb hc
          exact Win.step (hst.trans hr') (ih _ (by omega) gs' (w.at d) s r _ q' B sl' rfl hA' (h0'.trans h0) (hj'.trans hj) (hWd w d hW) hc)
  | @step vs b N hr hs hn ihS =>
    intro M
    induction M using Nat.strongRecOn with
    | _ M ih =>
      intro gs w s r t q B sl hM hA h0 hj hW hc
      have hjp:=hA.j0
      have hstb:=hA.stb h0 hj (.inl ha) (.inl hr)
      have haw:∀ x ∈ gs,awake x:=fun x hx=>by
        obtain ⟨i,hi,rfl⟩:=Array.mem_iff_getElem.1 hx
        exact (hstb i _ (Array.getElem?_eq_getElem hi)).awake
      obtain ⟨i,x,d,sl',hi,hx,hst⟩:=crowd_pick (P:=P) (w:=w) (sl:=sl) haw ⟨0,a,h0,ha⟩
      have hlt:0<gs.size:=(Array.getElem?_eq_some_iff.1 h0).1
      have hjl:j<gs.size:=(Array.getElem?_eq_some_iff.1 hj).1
      by_cases e0:i=0
      · subst e0
        obtain rfl:x=a:=by rw [h0] at hi;exact (Option.some.inj hi).symm
        rcases hD with hord | ⟨z,hcm,hmeet,hsh⟩
        · obtain ⟨a',w',es,e,hq,hc',hk⟩:=hord (w.at d) s r (hWd w d hW) hc
          have hrunT:=runT_crowd_go (P:=P) (sl:=sl') (i:=0) hi (show stepG P (0==0) x (w.at d)=_ from e)
          rw [map_woken hstb hc'] at hrunT
          obtain ⟨B',hA'⟩:=hA.own0 (a':=a') (fn:=x.frame.fn) (pos:=x.frame.place) hq
          exact Win.step (hst.trans hrunT) (hk _ _ _ _ _ _ hA' (by rw [Array.getElem?_setIfInBounds_self_of_lt hlt]) (by rw [Array.getElem?_setIfInBounds_ne (by omega)];exact hj) (.inl (Sender.step N hr hs hn)))
        · have hp:=part_nil hA (i:=0) (send:=true) (fun y h=>absurd rfl h) (fun y _ hy=>by rw [hj] at hy;cases hy;exact offersAt_of_not_blocked (by rw [hr];simp) _ _)
          have hrunT:=crowd_waits (P:=P) (sl:=sl') (i:=0) hi (show stepG P (0==0) x (w.at d)=_ from hcm (w.at d)) (fun cc hcc=>by
            rw [show cc=rcase c z by simpa using hcc]
            exact ways_recv_none (show (w.at d).heap[c]?=_ from hc) hp)
          have hA':=hA.gen (gs':=gs.setIfInBounds 0 (parked x #[rcase c z] (.recv true))) (u:=#[]) (by simp) (fun k hk hkj=>by rw [Array.getElem?_setIfInBounds_ne (by omega)]) (Nat.le_refl _) (by simpa using hA.past) (fun k _=>by simp)
          refine Win.step (hst.trans hrunT) ?_
          have:=rpark ha hWd hcm hmeet hsh (Sender.step N hr hs hn) _ (gs.setIfInBounds 0 (parked x #[rcase c z] (.recv true))) (w.at d) s r (t++#[]) q B sl' rfl hA' (by rw [Array.getElem?_setIfInBounds_self_of_lt hlt]) (by rw [Array.getElem?_setIfInBounds_ne (by omega)];exact hj) (hWd w d hW) hc
          simpa [MemOp.ofEvents] using this
      · by_cases ej:i=j
        · subst ej
          obtain rfl:x=b:=by rw [hj] at hi;exact (Option.some.inj hi).symm
          have hi0:(i==0)=false:=by simp [e0]
          have hrunT:=runT_crowd_go (P:=P) (sl:=sl') (i:=i) hi (by rw [hi0];exact hs (w.at d))
          rw [map_woken hstb (show Open c s r ((w.at d).at (N (w.at d)).2) from hc)] at hrunT
          have hA':=hA.gen (gs':=gs.setIfInBounds i (N (w.at d)).1) (u:=#[]) (by simp) (fun k hk hkj=>by rw [Array.getElem?_setIfInBounds_ne (by omega)]) (Nat.le_refl _) (by simpa using hA.past) (fun k _=>by simp)
          refine Win.step (hst.trans hrunT) ?_
          have:=ihS (w.at d) hD hclose _ (gs.setIfInBounds i (N (w.at d)).1) ((w.at d).at (N (w.at d)).2) s r (t++#[]) q B sl' rfl hA' (by rw [Array.getElem?_setIfInBounds_ne e0];exact h0) (by rw [Array.getElem?_setIfInBounds_self_of_lt hjl]) (hWd (w.at d) _ (hWd w d hW)) hc
          simpa [MemOp.ofEvents] using this
        · obtain ⟨gs',t',q',hr',hsz,h0',hj',hA',hlt'⟩:=hA.slip (sl:=sl') (w:=w.at d) hi e0 ej hx hstb hc
          exact Win.step (hst.trans hr') (ih _ (by omega) gs' (w.at d) s r _ q' B sl' rfl hA' (h0'.trans h0) (hj'.trans hj) (hWd w d hW) hc)
theorem place_kid (ha:a.status = .running) (hWd:∀ w d,Wk w->Wk (w.at d)) (hD:Does P Post c j a vs Wk) (hclose:vs=[]->∀ (w:World) (s r:Nat),Wk w->Open c s r w->Shutw P Post c j a (w.setChan c 0 #[] true s r false)) {w:World} {s r:Nat} (hW:Wk w) (hc:Open c s r w):Kid P Post c j a vs w:=by
  intro gs t q B sl b hA h0 hj hS
  rcases hS with hS | ⟨v,vs',g₂,z,hv,rfl,hn⟩
  · exact rrun ha hWd hD hclose hS _ gs w s r t q B sl rfl hA h0 hj hW hc
  · exact spark ha hWd hD hv hn _ gs w s r t q B sl rfl hA h0 hj hW hc
end
end Go.Proofs.YteaieagkjepgiaaGreatDoor
/- . -/
namespace Go.Proofs.YteaieagkjepgiaaGreatDoor
set_option maxRecDepth 100000
open Go.Conc
structure Pc (c m j:Nat) (B:Nat) (t:Trace):Prop where
  clean:∀ said,¬ Race said t
  known:∀ i a,touchAt t i=some a->a.loc.isMemory=true->Knows t 0 i\/(i=m/\a.loc = .obj c/\a.write=false/\a.kind = .atomic)
  look:∃ op,t[m]?=some op/\op.g=j
  shut:∃ op,t[m+1]?=some op/\op.g=j/\op.act = .close c
  heard:t.heard (m+1)
  noW:NoW t
  hears:Deaf t 0=0
  seen:∀ op ∈ t,op.act.low B
section
variable {c m j B:Nat} {t u:Trace}
theorem Pc.keep {B':Nat} (h:Pc c m j B t) (hB:B<=B') (hclean:∀ said,¬ Race said (t++u)) (hw:NoW (t++u)) (hnew:∀ i a op,t.size<=i->(t++u)[i]?=some op->op.act.touch?=some a->a.loc.isMemory=true->Knows (t++u) 0 i) (hd:Deaf (t++u) 0=Deaf t 0) (hl:∀ op ∈ u,op.act.low B'):Pc c m j B' (t++u):=by
  obtain ⟨o1,a1,a2⟩:=h.look
  obtain ⟨o2,b1,b2,b3⟩:=h.shut
  have l1:=lt_size_of_getElem? a1
  have l2:=lt_size_of_getElem? b1
  refine ⟨hclean,fun i a ha hm=>?_,⟨o1,by rw [getElem?_append_old l1];exact a1,a2⟩,⟨o2,by rw [getElem?_append_old l2];exact b1,b2,b3⟩,?_,hw,hd.trans h.hears,fun op hop=>?_⟩
  · obtain ⟨x,hx,hxa⟩:=touch_of ha
    rcases getElem?_append_cases hx with ⟨_,hx'⟩ | ⟨hge,hxu⟩
    · exact (h.known i a (by rw [touchAt_of hx'];exact hxa) hm).imp (·.app u) id
    · exact .inl (hnew i a x (by omega) hx hxa hm)
  · obtain ⟨g',hg',hd'⟩:=h.heard
    exact ⟨g',by rw [g?_old l2];exact hg',by rw [deaf_old (Nat.le_of_lt l2)];exact hd'⟩
  · rcases Array.mem_append.1 hop with q | q
    · exact MemAct.low_mono hB (h.seen op q)
    · exact hl op q
theorem Pc.appMute {g:Nat} (h:Pc c m j B t) (hg:g ≠ 0) (hu:∀ op ∈ u,op.g=g) (hn:∀ op ∈ u,op.act.touch?=none) (hl:∀ op ∈ u,op.act.low B):Pc c m j B (t++u):=by
  refine h.keep (Nat.le_refl _) (fun said=>noRace_append (h.clean said) hu fun i a _ op hop b hb _=>(by rw [hn op hop] at hb;cases hb)) (h.noW.app (fun op hop a ha=>by rw [hn op hop] at ha;cases ha)) (fun i a op hi hop ha _=>?_) (Deaf_other t hg u hu) hl
  rcases getElem?_append_cases hop with ⟨hlt,_⟩ | ⟨_,hxu⟩
  · omega
  · rw [hn op hxu] at ha;cases ha
theorem Pc.app0 {B':Nat} (h:Pc c m j B t) (hB:B<=B') (hu:∀ op ∈ u,op.g=0) (hs:∀ op ∈ u,∀ b,op.act.touch?=some b->∀ r,b.loc = .obj r->b.write=false) (hd:Deaf (t++u) 0=Deaf t 0) (hl:∀ op ∈ u,op.act.low B'):Pc c m j B' (t++u):=by
  refine h.keep hB (fun said=>noRace_append (h.clean said) hu fun i a ha op hop b hb hc=>?_) (h.noW.app hs) (fun i a op hi hop ha _=>?_) hd hl
  · rcases h.known i a ha hc.2.1 with hk | ⟨_,q1,q2,_⟩
    · exact hk
    · exfalso
      have:=hs op hop b hb c (hc.1 ▸ q1)
      rcases hc.2.2.1 with w1 | w1
      · rw [q2] at w1;cases w1
      · rw [this] at w1;cases w1
  · rcases getElem?_append_cases hop with ⟨hlt,_⟩ | ⟨_,hxu⟩
    · omega
    · have:=knows_own hop
      rw [hu op hxu] at this
      exact this
theorem keeps_pc (c m j:Nat):Keeps (fun B t=>Pc c m j B t):=by
  refine ⟨fun {B t i fn pos es} h hi hm=>h.appMute hi (fun op hop=>by obtain ⟨e,_,rfl⟩:=Go.Conc.mem_ofEvents hop;rfl) (fun op hop=>by obtain ⟨e,he,rfl⟩:=Go.Conc.mem_ofEvents hop;exact touch_mute (hm e he)) (fun op hop=>by obtain ⟨e,he,rfl⟩:=Go.Conc.mem_ofEvents hop;exact low_mute (hm e he) B),fun {B B' t fn pos es} h hB hq hl=>?_⟩
  refine h.app0 hB (fun op hop=>by obtain ⟨e,_,rfl⟩:=Go.Conc.mem_ofEvents hop;rfl) (fun op hop b hb r hbl=>?_) ?_ (fun op hop=>by obtain ⟨e,he,rfl⟩:=Go.Conc.mem_ofEvents hop;exact hl e he)
  · obtain ⟨e,he,rfl⟩:=Go.Conc.mem_ofEvents hop
    obtain ⟨l1,l2⟩:=touch_quiet (hq e he) hb
    rw [l2]
    exact (hq e he).2 r (l1 ▸ hbl)
  · rw [Deaf_own]
    exact deafBehind_still (fun e he=>⟨fun hx=>(by cases (hq e he).1 _ hx),fun hx=>(by cases (hq e he).1 _ hx)⟩) _
theorem Pc.of (h:Pi B t) (hj:j ≠ 0) (hd:Deaf t j=0) (hc:c<B) (fn:FuncId) (pos:String):Pc c t.size j B (t++MemOp.ofEvents j fn pos (closeEvents c)):=by
  rw [closeOps]
  generalize hu':(#[{ g:=j,fn:=fn,pos:=pos,act:=.access ⟨.obj c,false,true⟩ },{ g:=j,fn:=fn,pos:=pos,act:=.close c }]:Trace)=u
  have e0:(t++u)[t.size]?=some { g:=j,fn:=fn,pos:=pos,act:=.access ⟨.obj c,false,true⟩ }:=by subst hu';simp
  have e1:(t++u)[t.size+1]?=some { g:=j,fn:=fn,pos:=pos,act:=.close c }:=by subst hu';simp
  have hmem:∀ op ∈ u,op = { g:=j,fn:=fn,pos:=pos,act:=.access ⟨.obj c,false,true⟩ }\/op = { g:=j,fn:=fn,pos:=pos,act:=.close c }:=by
    intro op hop
    subst hu'
    simpa using hop
  have hu:∀ op ∈ u,op.g=j:=fun op hop=>by rcases hmem op hop with rfl | rfl <;> rfl
  have ht:∀ op ∈ u,∀ b,op.act.touch?=some b->b=⟨.obj c,false,.atomic⟩:=by
    intro op hop b hb
    rcases hmem op hop with rfl | rfl
    · simpa [MemAct.touch?] using hb.symm
    · simp [MemAct.touch?] at hb
  refine ⟨fun said=>noRace_append (h.1.clean said) hu fun i a ha op hop b hb hcf=>?_,fun i a ha hm=>?_,⟨_,e0,rfl⟩,⟨_,e1,rfl,rfl⟩,?_,h.2.app (fun op hop b hb r _=>by rw [ht op hop b hb]),(Deaf_other t hj u hu).trans h.1.hears,fun op hop=>?_⟩
  · exfalso
    have hb':=ht op hop b hb
    subst hb'
    have hw:=h.2 i a ha c hcf.1
    rcases hcf.2.2.1 with x | x
    · rw [hw] at x;cases x
    · cases x
  · obtain ⟨x,hx,hxa⟩:=touch_of ha
    rcases getElem?_append_cases hx with ⟨_,hx'⟩ | ⟨hge,hxu⟩
    · rcases h.1.known i a (by rw [touchAt_of hx'];exact hxa) hm with q | q
      · exact .inl (q.app u)
      · exact q.1.elim
    · have hb':=ht x hxu a hxa
      subst hb'
      refine .inr ⟨?_,rfl,rfl,rfl⟩
      have hl:i<(t++u).size:=lt_size_of_getElem? hx
      have hsz:(t++u).size=t.size+2:=by subst hu';simp
      have:i ≠ t.size+1:=by
        intro e
        subst e
        rw [e1] at hx
        cases hx
        simp [MemAct.touch?] at hxa
      omega
  · refine ⟨j,g?_of e1,?_⟩
    show (t++u).deaf j (t.size+1)=0
    unfold Trace.deaf
    rw [e0]
    dsimp only
    rw [deaf_old (Nat.le_refl _)]
    exact hd
  · rcases Array.mem_append.1 hop with q | q
    · exact h.1.seen op q
    · rcases hmem op q with rfl | rfl <;> exact hc
theorem Pc.take (h:Pc c m j B t) (hc:c<B) (fn:FuncId) (pos:String):Pi B (t++#[{ g:=0,fn:=fn,pos:=pos,act:=.recvClosed c }]):=by
  generalize hu:(#[{ g:=0,fn:=fn,pos:=pos,act:=.recvClosed c }]:Trace)=u
  obtain ⟨o1,a1,a2⟩:=h.look
  obtain ⟨o2,b1,b2,b3⟩:=h.shut
  have l1:=lt_size_of_getElem? a1
  have l2:=lt_size_of_getElem? b1
  have hmem:∀ op ∈ u,op = { g:=0,fn:=fn,pos:=pos,act:=.recvClosed c }:=by
    intro op hop
    subst hu
    simpa using hop
  have hn:∀ op ∈ u,op.act.touch?=none:=fun op hop=>by rw [hmem op hop];rfl
  have e0:(t++u)[t.size]?=some { g:=0,fn:=fn,pos:=pos,act:=.recvClosed c }:=by subst hu;simp
  have a1':(t++u)[m]?=some o1:=by rw [getElem?_append_old l1];exact a1
  have b1':(t++u)[m+1]?=some o2:=by rw [getElem?_append_old l2];exact b1
  have hd0:Deaf (t++u) 0=0:=(Deaf_quiet (fun op hop d=>by rw [hmem op hop];rfl)).trans h.hears
  have hh1:(t++u).heard (m+1):=by
    obtain ⟨g',hg',hd'⟩:=h.heard
    exact ⟨g',by rw [g?_old l2];exact hg',by rw [deaf_old (Nat.le_of_lt l2)];exact hd'⟩
  have hh2:(t++u).heard t.size:=⟨0,g?_of e0,by rw [deaf_old (Nat.le_refl _)];exact h.hears⟩
  have edge:HappensBefore (t++u) (m+1) t.size:=
    Relation.TransGen.single (.inr ⟨.closed (by rw [act?_of b1',b3]) (act?_of e0),hh1,hh2⟩)
  have po:HappensBefore (t++u) m (m+1):=hb_po (Nat.lt_succ_self m) a1' b1' (a2.trans b2.symm)
  have hk:∀ i a,touchAt (t++u) i=some a->a.loc.isMemory=true->Knows (t++u) 0 i:=by
    intro i a ha hm
    obtain ⟨x,hx,hxa⟩:=touch_of ha
    rcases getElem?_append_cases hx with ⟨_,hx'⟩ | ⟨_,hxu⟩
    · rcases h.known i a (by rw [touchAt_of hx'];exact hxa) hm with q | ⟨rfl,_⟩
      · exact q.app u
      · exact ⟨t.size,_,e0,rfl,.inr (po.trans edge)⟩
    · rw [hn x hxu] at hxa;cases hxa
  refine ⟨⟨fun said=>noRace_appendMute (h.clean said) hn,fun i a ha hm=>.inl (hk i a ha hm),fun i g hg hne hcnt=>?_,hd0,fun op hop=>?_⟩,h.noW.app (fun op hop a ha=>by rw [hn op hop] at ha;cases ha)⟩
  · obtain ⟨x,hx,hm,_⟩:=hcnt
    obtain ⟨q,z,hq,hz,hb⟩:=hk i x hx hm
    rcases hb with rfl | hb
    · rw [g?_of hq,hz] at hg
      exact absurd (Option.some.inj hg).symm hne
    · exact ⟨q,by rw [g?_of hq,hz],hb⟩
  · rcases Array.mem_append.1 hop with q | q
    · exact h.seen op q
    · rw [hmem op q];exact hc
end
end Go.Proofs.YteaieagkjepgiaaGreatDoor
/- . -/
namespace Go.Proofs.YteaieagkjepgiaaGreatDoor
set_option maxRecDepth 100000
open Go.Conc
section
variable {T:Tables} {f:Array Func} {fr:Frame} {tops:List Frame} {w:World} {c cap s r:Nat} {buf:Array Value} {cl tm:Bool} {z:Value}
theorem lone_comm {P:Program} (cs:List Frame) (v:World):step P (lone fr cs v)=(runT P (crowd #[Gr fr cs] v none) 0).1:=by
  rw [step,stepT,move_lone]
  rfl
theorem lone_part (cs:List Frame) (send:Bool):partners ((#[Gr fr cs]:Array Goroutine).setIfInBounds 0 ph) c send=[]:=by
  refine partners_nil (fun k x hx=>?_)
  cases k with
  | zero =>
    simp at hx
    subst hx
    rfl
  | succ k=>simp at hx
theorem lone_dead {P:Program} (g:Goroutine) (cs:Array CommCase) (sh:CommShape) (v:World):∃ o w',step P (crowd #[parked g cs sh] v none) = .ended o w':=by
  have hr:runnable #[parked g cs sh] v.os.mono=[]:=by simp [runnable,runnable.go,Goroutine.canRun,parked]
  have ha:∀ w':World,ahead { world:=w',gs:=#[parked g cs sh],rest:={ timers:=#[],alone:=none,slice:=none } } false=none:=by
    intro w';simp [ahead,parked]
  have hp:Sem.run P (pure 0:Sem Nat) v = .ok 0 v:=rfl
  have hs:(parked g cs sh).status = .blocked:=rfl
  simp only [step,stepT,move,ask,askOn,crowd,hr,due,hp,ha]
  simp [hs,hp,ha]
  generalize endWith _ _ _ _=G
  cases G <;> exact ⟨_,_,rfl⟩
def AtRc (P:Program) (fr:Frame) (c:Nat) (z:Value):Prop:=∀ (main:Bool) (cs:List Frame) (w:World),stepG P main (Gr fr cs) w = .comm (Gr fr cs) #[rcase c z] true (.recv true) w #[]
theorem leap_recv (h:AtRc ⟨T,f⟩ fr c z) (hc:w.heap[c]?=some (.chan cap buf cl s r tm)) (hb:0<buf.size) :
    Leap ⟨T,f⟩ fr tops w (fr.finish (.tuple #[buf.getD 0 undef,.bool true])) tops (w.setChan c cap (buf.extract 1 buf.size) cl s (r+1) tm):=by
  refine ⟨rfl,rfl,fun τ _=>⟨0,?_⟩⟩
  simp only [runN]
  rw [lone_comm,crowd_recv_buf (i:=0) (g:=Gr fr (tops++[sent ⟨T,f⟩])) rfl (h true _ (Rt w τ)) (show (Rt w τ).heap[c]?=_ from hc) hb (lone_part _ _)]
  rfl
theorem leap_shut (h:AtRc ⟨T,f⟩ fr c z) (hc:w.heap[c]?=some (.chan cap #[] true s r tm)) :
    Leap ⟨T,f⟩ fr tops w (fr.finish (.tuple #[z,.bool false])) tops w:=by
  refine ⟨rfl,rfl,fun τ _=>⟨0,?_⟩⟩
  simp only [runN]
  rw [lone_comm,crowd_recv_closed (i:=0) (g:=Gr fr (tops++[sent ⟨T,f⟩])) rfl (h true _ (Rt w τ)) (show (Rt w τ).heap[c]?=_ from hc) (lone_part _ _)]
  rfl
theorem recv_some {Fin:Frame->World->Prop} (h:AtRc ⟨T,f⟩ fr c z) (hm:fr.mode = .run) (hc:w.heap[c]?=some (.chan cap buf cl s r tm)) (hT:Tm2 ⟨T,f⟩ Fin fr tops w):0<buf.size\/(buf=#[]/\cl=true):=by
  rcases Nat.eq_zero_or_pos buf.size with h0 | h0
  · have hb:buf=#[]:=Array.eq_empty_of_size_eq_zero h0
    subst hb
    cases cl with
    | true=>exact .inr ⟨rfl,rfl⟩
    | false =>
      exfalso
      obtain ⟨n,fr',w',e,l,_⟩:=hT w.tape (fun _ _=>rfl)
      have hw:∀ cc ∈ (#[rcase c z]:Array CommCase),NoWays (Rt w w.tape) ((#[Gr fr (tops++[sent ⟨T,f⟩])]:Array Goroutine).setIfInBounds 0 ph) cc:=by
        intro cc hcc
        rw [show cc=rcase c z by simpa using hcc]
        exact ways_recv_none (show (Rt w w.tape).heap[c]?=_ from hc) (lone_part _ _)
      have e1:step ⟨T,f⟩ (lone fr (tops++[sent ⟨T,f⟩]) (Rt w w.tape)) = .next (crowd #[parked (Gr fr (tops++[sent ⟨T,f⟩])) #[rcase c z] (.recv true)] (Rt w w.tape) none):=by
        rw [lone_comm,crowd_waits (i:=0) (g:=Gr fr (tops++[sent ⟨T,f⟩])) rfl (h true _ (Rt w w.tape)) hw]
        rfl
      cases n with
      | zero =>
        simp only [runN,lone,Stepped.next.injEq,Machine.mk.injEq] at e
        have e2:(Gr fr (tops++[sent ⟨T,f⟩]))=(Gr fr' [sent ⟨T,f⟩]):=by simpa using e.2.1
        injection e2 with e3
        rw [e3] at hm
        rw [l.1] at hm
        cases hm
      | succ n =>
        simp only [runN,e1] at e
        cases n with
        | zero =>
          simp only [runN,crowd,lone,Stepped.next.injEq,Machine.mk.injEq] at e
          have e2:parked (Gr fr (tops++[sent ⟨T,f⟩])) #[rcase c z] (.recv true)=(Gr fr' [sent ⟨T,f⟩]):=by simpa using e.2.1
          have e3:=congrArg Goroutine.status e2
          cases e3
        | succ n =>
          obtain ⟨o,w3,hd⟩:=lone_dead (P:=⟨T,f⟩) (Gr fr (tops++[sent ⟨T,f⟩])) #[rcase c z] (.recv true) (Rt w w.tape)
          simp only [runN,hd] at e
          cases e
  · exact .inl h0
end
end Go.Proofs.YteaieagkjepgiaaGreatDoor
/- . -/
namespace Go.Proofs.YteaieagkjepgiaaGreatDoor
set_option maxRecDepth 100000
open Go.Conc
section
variable {ok:Op->Bool} {S:List FuncId} {P:Program} {fr:Frame} {c:Nat} {z:Value}
theorem at_rc (h:Ord ok S fr) (hm:fr.mode = .run) {ops:Array Oper} {i:Nat} {r:List Nat} {k:List Item} {o:Oper} {ct el:TypeId} {d:ChanDir} {ch:Operand} (ht:fr.todo = .inRegion ops (i::r)::k) (ho:ops[i]?=some o)
    (hw:Region.wanted o (yielded ops fr.tmps)=true) (hop:o.op = .recv ct ch true) (hc:fr.eval ch = .chan (some c)) (hu:∀ w es,(underlying ct).runT P w es=(.ok (.chan d el) w,es)) (hz:∀ w es,(zeroValue el).runT P w es=(.ok z w,es)):AtRc P fr c z:=by
  intro main cs w
  have e:(execOp fr.eval o).runT P w #[]=(.ok (.comm #[rcase c z] true (.recv true)) w,#[]):=by
    unfold execOp
    rw [hop]
    have e1:∀ {α β:Type} (x:Sem α) (F:α->Sem β),(x >>= F)=x.bind F:=fun _ _=>rfl
    simp only [e1,Sem.runT_bind',hu,hz,hc]
    rfl
  rw [step_op h.round hm ht ho hw]
  simp [-Sem.runT_eq,stepG.apply,e,GStep.after,h.kind,seen]
end
end Go.Proofs.YteaieagkjepgiaaGreatDoor
/- . -/
namespace Go.Proofs.YteaieagkjepgiaaGreatDoor
set_option maxRecDepth 100000
open Go.Conc
section
variable {ok:Op->Bool} {S:List FuncId} {T:Tables} {f:Array Func} {fr:Frame} {tops:List Frame} {w:World}
theorem panic_up (h:Ord ok S fr) {ch:List PanicEntry} (hm:fr.mode = .panicking ch) {fn:Func} (hf:f[fr.fn]?=some fn) (main:Bool) (c:Frame) (x:List Frame) (v:World):stepG ⟨T,f⟩ main (Gr fr (c::x)) v = .go (Gr (c.raise ch) x) v #[]:=by
  have hdf:=h.defers
  obtain ⟨fn',tmps,todo,defers,mode,kind,round⟩:=fr
  simp only at hm hdf hf
  subst hm hdf
  simp [stepG,unwind,Frame.catches,hf]
theorem raise_mode {c:Frame} (hm:c.mode = .run) (ch:List PanicEntry):(c.raise ch).mode = .panicking ch:=by
  unfold Frame.raise
  simp [hm]
theorem panic_run (hF:∀ x ∈ S,Fine ok f f x):∀ (n:Nat) (fr:Frame) (tops:List Frame) (w:World) (ch:List PanicEntry) (fr':Frame) (w':World),Ord ok S fr->(∀ t ∈ tops,Ord ok S t/\t.mode = .run)->fr.mode = .panicking ch ->
    runN ⟨T,f⟩ n (lone fr (tops++[sent ⟨T,f⟩]) w) = .next (lone fr' [sent ⟨T,f⟩] w')->fr'.mode ≠ .returning:=by
  intro n
  induction n with
  | zero =>
    intro fr tops w ch fr' w' h ht hm e
    simp only [runN,lone,Stepped.next.injEq,Machine.mk.injEq] at e
    have e2:(Gr fr (tops++[sent ⟨T,f⟩]))=(Gr fr' [sent ⟨T,f⟩]):=by simpa using e.2.1
    injection e2 with e3 e4
    rw [<-e3,hm]
    simp
  | succ n ih =>
    intro fr tops w ch fr' w' h ht hm e
    obtain ⟨_,fn,k2,_⟩:=(hF fr.fn h.fn).1
    cases tops with
    | nil =>
      exfalso
      simp only [runN,List.nil_append] at e
      rw [lone_step (panic_up h hm k2 true (sent ⟨T,f⟩) [] w)] at e
      dsimp only at e
      cases n with
      | zero =>
        simp only [runN,lone,Stepped.next.injEq,Machine.mk.injEq] at e
        have:=e.2.1
        simp at this
      | succ n =>
        obtain ⟨o,w3,es,hs⟩:=sent_panic (T:=T) (f:=f) ch w
        simp only [runN,lone_ended hs] at e
        cases e
    | cons c rest =>
      simp only [runN,List.cons_append] at e
      rw [lone_step (panic_up h hm k2 true c (rest++[sent ⟨T,f⟩]) w)] at e
      have hc:=ht c (.head _)
      refine ih (c.raise ch) rest w ch fr' w' ?_ (fun t q=>ht t (.tail _ q)) (raise_mode hc.2 ch) e
      unfold Frame.raise
      split <;> exact ⟨hc.1.fn,hc.1.items,hc.1.defers,hc.1.kind,hc.1.round⟩
theorem Tm2.calm {Fin:Frame->World->Prop} (hT:Tm2 ⟨T,f⟩ Fin fr tops w) (hF:∀ x ∈ S,Fine ok f f x) (h:Ord ok S fr) (ht:∀ t ∈ tops,Ord ok S t/\t.mode = .run) (ch:List PanicEntry):fr.mode ≠ .panicking ch:=by
  intro hm
  obtain ⟨n,fr',w',e,l,_⟩:=hT w.tape (fun _ _=>rfl)
  exact panic_run hF n fr tops _ ch fr' w' h ht hm e l.1
end
end Go.Proofs.YteaieagkjepgiaaGreatDoor
