/- Texts of ours, laid one behind the other: StP, StQ. -/
import Derived.Test.YtackbhpgdohimaaGreatDoorQk9
import Derived.Test.YtackbhpgdohimaaGreatDoorQkStG
import Derived.Test.YtackbhpgdohimaaGreatDoorQk12
import Derived.Test.YtackbhpgdohimaaGreatDoorQk13
/- StP: . -/
namespace Go.Proofs.YtackbhpgdohimaaGreatDoor
set_option maxRecDepth 100000
set_option maxHeartbeats 16000000
open Go.RowKit
attribute [local go_sem ↓] Go.wp_at_zero Go.wp_at_succ
section
variable {e:EM} {L:List (Nat × List Value)} {rs:List NR} {r:NR} {B cap g k n:Nat} {a:Option Addr} {T:TM} {W w0:World}
theorem qdl (path:ByteArray) (w:World):Calls Tryz.prog 243 #[.agg #[.string path]] w fun e w'=>e = .returned (.string path)/\Below w.heap.size w w':=by
 go_enter Tryz.func243,Tryz.ntmps243;go_wp2_with fail;go_ret;exact ⟨rfl,zB.alloc zL _⟩
theorem qmf (path up nm:ByteArray) (w:World):Calls Tryz.prog 244 #[.agg #[.string path,.string up,.string nm]] w fun e w'=>e = .returned (.string up)/\Below w.heap.size w w':=by
 go_enter Tryz.func244,Tryz.ntmps244;go_wp2_with fail;go_ret;exact ⟨rfl,zB.alloc zL _⟩
theorem SS.perm {L M:List (Nat × List Value)} (h:SS w0 W L B a n cap rs) (hp:L.Perm M):SS w0 W M B a n cap rs:=
 ⟨⟨fun x hx=>h.mb.box x (hp.mem_iff.2 hx),(hp.pairwise_iff (fun {a b} (h:a.1 ≠ b.1)=>h.symm)).1 h.mb.dist,h.mb.bel⟩,h.nb,h.len,fun x hx=>h.ap x (hp.mem_iff.2 hx),h.lo⟩
theorem SS.tr (h:SS w0 W L B (some ⟨g,0,none⟩) n cap rs):TR W (some ⟨g,0,none⟩) rs 0 W.heap.size:=⟨by
  have ho:=h.nb.own;rw [h.len] at ho
  exact qjk ho (fun hp e=>by have e2:(ncs rs).length=rs.length*9:=qes rs;rw [h.len,e] at e2;change 0<(ncs rs).length at hp;omega),fun r hr=>qjk (h.nb.rows r hr) (fun hp e=>by have e2:(pcs r.nd.pieces).length=r.nd.pieces.length*2:=qiv _;rw [e] at e2;change 0<(pcs r.nd.pieces).length at hp;omega)⟩
theorem SS.of_copy {w0 x y:World} (M:MB w0 x L) (hb:Below x.heap.size x y) (nb:NB y x.heap.size (.slice a n cap) rs) (hl:rs.length=n):SS w0 y L x.heap.size a n cap rs:=by
 refine ⟨M.below hb,nb,hl,fun p hp=>⟨fun q e=>?_,fun r hr q e=>?_⟩,M.bel.size⟩
 ·have h1:=(nb.own.lt q.block (by rw [e];rfl)).1
  have h2:=(M.box p hp).1.1;omega
 ·have h1:=((nb.rows r hr).lt q.block (by rw [e];rfl)).1
  have h2:=(M.box p hp).1.1;omega
def qsu (R:TM × Int × Int) (w:World) (r:Ending) (w':World):Prop:=∃ v,r = .returned (.tuple #[v,.int .i64 R.2.1,.int .i64 R.2.2])/\TAns w' v R.1 w.heap.size w'.heap.size/\Below w.heap.size w w'
theorem TAns.nothing (w:World) (lo hi:Nat):TAns w (.agg #[.slice none 0 0,.int .i64 0]) noT lo hi:=⟨none,0,[],rfl,rfl,zL,.inl rfl⟩
theorem drop_nds (h:qae T=true) {rs:List NR} (hr:nds rs=T.nodes) {x:NM} (hx:x ∈ T.nodes):nds (rs.filter (fun q=>!(qap T x.id).contains q.nd.id))=(dropT T x.id).nodes:=by
 have e:nds (rs.filter (fun q=>!(qap T x.id).contains q.nd.id))=(nds rs).filter (fun n=>!(qap T x.id).contains n.id):=by
  unfold nds;rw [List.filter_map]
  rfl
 rw [e,hr];unfold dropT;refine List.filter_congr fun n hn=>?_;have h1:=qjy h hn hx;unfold blB at h1
 have:(qap T x.id).contains n.id=qal T.nodes 15 n.id x.id:=by
  rw [Bool.eq_iff_iff,List.contains_iff_mem];exact h1
 rw [this]
theorem below_self (h:qae T=true) {x:NM} (hx:x ∈ T.nodes):qap T x.id ≠ []:=by
 intro e;have h1:=(qjy h hx hx).2 (by unfold blB;rw [(TP.of h).up.below hx,if_pos rfl]);rw [e] at h1;simp at h1
theorem qmg {P:Program} {ρ:Operand->Value} {o:Oper} {r:Operand} {m:String} {ps:Array Operand} {ts:Array TypeId} {rv:Value} {vs:Array Value} (h:o.op = .call ⟨.invoke r m,ps,ts⟩) (hr:ρ r=rv) (hv:ps.map ρ=vs) (x:World):(execOp ρ o).run P x=(callMethod rv m vs).run P x:=by
 subst hr hv;unfold execOp;rw [h];have e0:(#[ρ r]++ps.map ρ)[0]?=some (ρ r):=by rw [Array.getElem?_append_left (by simp)];rfl
 have e1:(#[ρ r]++ps.map ρ).extract 1 (#[ρ r]++ps.map ρ).size=ps.map ρ:=by
  rw [Array.extract_append];simp
 simp only [resolve,invoke,e0,e1,pure_bind]
theorem qky (h:qaq e=true):e.kind=1\/e.kind=2\/e.kind=3\/e.kind=4\/e.kind=5\/e.kind=6\/e.kind=7\/e.kind=8\/e.kind=9\/e.kind=10:=by
 obtain ⟨h1,h2⟩:=qkw h;omega
theorem recV1 (h:e.kind=1):recV e = .iface 177 (.agg #[.string e.path,.string (qab e.path).1,.string (qab e.path).2.1]):=by
 unfold recV;simp [h]
theorem recV2 (h:e.kind=2):recV e = .iface 179 (.agg #[.string e.path,.string (qab e.path).1,.string (qab e.path).2.1,.int .i64 e.who]):=by
 unfold recV;simp [h]
theorem recV3 (h:e.kind=3):recV e = .iface 181 (.agg #[.string e.path,.string e.dest,.string (qab e.dest).1,.string (qab e.dest).2.1]):=by
 unfold recV;simp [h]
theorem recV4 (h:e.kind=4):recV e = .iface 183 (.agg #[.string e.path]):=by
 unfold recV;simp [h]
theorem recV5 (h:e.kind=5):recV e = .iface 185 (.agg #[.string e.path,.int .i64 e.num]):=by
 unfold recV;simp [h]
theorem recV6 (h:e.kind=6):recV e = .iface 187 (.agg #[.string e.path,.int .i64 e.num]):=by
 unfold recV;simp [h]
theorem recV7 (h:e.kind=7):recV e = .iface 189 (.agg #[.string e.path,.int .i64 e.num]):=by
 unfold recV;simp [h]
theorem recV8 (h:e.kind=8):recV e = .iface 190 (.agg #[.string e.path]):=by
 unfold recV;simp [h]
theorem recV9 (h:e.kind=9):recV e = .iface 192 (.agg #[.string e.path,.int .i64 e.who]):=by
 unfold recV;simp [h]
theorem qsd (h:e.kind=10):recV e = .iface 193 (.agg #[.string e.path]):=by
 unfold recV;simp [h]
theorem must_any (h:qaq e=true):∃ (f:FuncId) (args:Array Value),(∀ x,(callMethod (recV e) "loop.example/g00197/impl.mustBe" #[]).run Tryz.prog x = .ok (.enter f args) x)/\∀ x,Calls Tryz.prog f args x fun r y=>r = .returned (.string (mustP e))/\Below x.heap.size x y:=by
 rcases qky h with k | k | k | k | k | k | k | k | k | k
 ·have hm:mustP e=(qab e.path).1:=by unfold mustP;simp [k]
  rw [recV1 k,hm];exact ⟨244,#[.agg #[.string e.path,.string (qab e.path).1,.string (qab e.path).2.1]],fun x=>by kernel_rfl,fun x=>qmf _ _ _ x⟩
 ·have hm:mustP e=(qab e.path).1:=by unfold mustP;simp [k]
  rw [recV2 k,hm];exact ⟨244,#[.agg #[.string e.path,.string (qab e.path).1,.string (qab e.path).2.1]],fun x=>by kernel_rfl,fun x=>qmf _ _ _ x⟩
 ·have hm:mustP e=e.path:=by unfold mustP;simp [k]
  rw [recV3 k,hm];exact ⟨243,#[.agg #[.string e.path]],fun x=>by kernel_rfl,fun x=>qdl _ x⟩
 ·have hm:mustP e=e.path:=by unfold mustP;simp [k]
  rw [recV4 k,hm];exact ⟨243,#[.agg #[.string e.path]],fun x=>by kernel_rfl,fun x=>qdl _ x⟩
 ·have hm:mustP e=e.path:=by unfold mustP;simp [k]
  rw [recV5 k,hm];exact ⟨243,#[.agg #[.string e.path]],fun x=>by kernel_rfl,fun x=>qdl _ x⟩
 ·have hm:mustP e=e.path:=by unfold mustP;simp [k]
  rw [recV6 k,hm];exact ⟨243,#[.agg #[.string e.path]],fun x=>by kernel_rfl,fun x=>qdl _ x⟩
 ·have hm:mustP e=e.path:=by unfold mustP;simp [k]
  rw [recV7 k,hm];exact ⟨243,#[.agg #[.string e.path]],fun x=>by kernel_rfl,fun x=>qdl _ x⟩
 ·have hm:mustP e=e.path:=by unfold mustP;simp [k]
  rw [recV8 k,hm];exact ⟨243,#[.agg #[.string e.path]],fun x=>by kernel_rfl,fun x=>qdl _ x⟩
 ·have hm:mustP e=e.path:=by unfold mustP;simp [k]
  rw [recV9 k,hm];exact ⟨243,#[.agg #[.string e.path]],fun x=>by kernel_rfl,fun x=>qdl _ x⟩
 ·have hm:mustP e=e.path:=by unfold mustP;simp [k]
  rw [qsd k,hm];exact ⟨243,#[.agg #[.string e.path]],fun x=>by kernel_rfl,fun x=>qdl _ x⟩
theorem run_nil {ρ:Operand->Value} {o:Oper} {r:Operand} (h:qaq e=true) (ho:o.op = .nilCheck r) (hv:ρ r = .func (.method "loop.example/g00197/impl.change") #[recV e] #[]) (x:World):(execOp ρ o).run Tryz.prog x = .ok (.value (.func (.method "loop.example/g00197/impl.change") #[recV e] #[])) x:=by
 unfold execOp;rw [ho];simp only [hv];rcases qky h with k | k | k | k | k | k | k | k | k | k
 ·rw [recV1 k];kernel_rfl
 ·rw [recV2 k];kernel_rfl
 ·rw [recV3 k];kernel_rfl
 ·rw [recV4 k];kernel_rfl
 ·rw [recV5 k];kernel_rfl
 ·rw [recV6 k];kernel_rfl
 ·rw [recV7 k];kernel_rfl
 ·rw [recV8 k];kernel_rfl
 ·rw [recV9 k];kernel_rfl
 ·rw [qsd k];kernel_rfl
def ChPost (w0:World) (L:List (Nat × List Value)) (tb B:Nat) (U:TM) (q:Ending) (y:World):Prop:=q = .returned (.tuple #[])/\∃ (gg nn cc:Nat) (rs':List NR),SS w0 y ((tb,[.slice (some ⟨gg,0,none⟩) nn cc,.int .i64 U.next])::L) B (some ⟨gg,0,none⟩) nn cc rs'/\nds rs'=U.nodes
theorem nd_of (hr:nds rs=T.nodes) (hk:rs[k]?=some r):r.nd=ndAt T k/\k<T.nodes.length:=by
 obtain ⟨hl,e⟩:=List.getElem?_eq_some_iff.1 hk;have hl2:k<T.nodes.length:=by rw [<-hr,qaf];exact hl
 refine ⟨?_,hl2⟩;rw [qev hl2];have:(nds rs)[k]?=some r.nd:=by unfold nds;rw [List.getElem?_map,hk];rfl
 rw [hr,List.getElem?_eq_getElem hl2] at this;exact (Option.some.inj this).symm
theorem change_any {B g n cap tb:Nat} {nx:Int} {gr:Int} (h:SS w0 W ((tb,[.slice (some ⟨g,0,none⟩) n cap,.int .i64 nx])::L) B (some ⟨g,0,none⟩) n cap rs) (hk:rs[k]?=some r) (hok:qae T=true) (hr:nds rs=T.nodes) (hx:nx=T.next) (hE:qaq e=true)
  (hf:findX T (mustP e) ≠ 0) (hkk:k=plc T (findX T (mustP e))) (href:refX T e (ndAt T k)=0) (g1:1<=gr) (g2:gr<=99000) :
  ∃ (f:FuncId) (args:Array Value),(∀ x,(callMethod (recV e) "loop.example/g00197/impl.change" #[.pointer (some ⟨tb,0,none⟩),.pointer (some ⟨g,k*9,none⟩),.int .i64 gr]).run Tryz.prog x = .ok (.enter f args) x)/\Calls Tryz.prog f args W (ChPost w0 L tb B (chT T e k gr)):=by
 subst hx;obtain ⟨hrn,hkl⟩:=nd_of hr hk;have hl:=qbi hok;have hnl:n=T.nodes.length:=by rw [<-hr,qaf,h.len]
 have hn:n<=1000:=by omega
 have hnx:0<=T.next/\T.next<=1000000:=by have:=qjh hok;omega
 have hfa:=qeo hok hf;rw [<-hkk] at hfa;have hid:r.nd.id=findX T (mustP e):=by rw [hrn];exact hfa.2.1
 have hmem:r.nd ∈ T.nodes:=by rw [hrn];exact hfa.2.2
 have hnds:∀ s:NR,nds (rs++[s])=T.nodes++[s.nd]:=fun s=>by rw [<-hr];unfold nds;simp
 have hset:∀ s:NR,nds (rs.set k s)=(setN T k s.nd).nodes:=fun s=>by rw [qfe,hr];rfl
 have hpt:=qbr hok k hkl;rw [<-qev hkl,<-hrn] at hpt;rcases qky hE with q | q | q | q | q | q | q | q | q | q
 ·rw [recV1 q]
  refine ⟨245,#[.agg #[.string e.path,.string (qab e.path).1,.string (qab e.path).2.1],.pointer (some ⟨tb,0,none⟩),.pointer (some ⟨g,k*9,none⟩),.int .i64 gr],fun x=>by kernel_rfl,?_⟩;have hm:mustP e=(qab e.path).1:=by unfold mustP;simp [q]
  have hc:chT T e k gr=addT T e.path newDir:=by unfold chT;simp [q]
  rw [hm] at hid;rw [hc];refine (chMake h hk hn hnx e.path gr).mono ?_;rintro a y ⟨rfl,gg,c1,hS⟩;refine ⟨rfl,gg,n+1,c1,_,hS,?_⟩;rw [hnds,hid]
  rfl
 ·rw [recV2 q]
  refine ⟨247,#[.agg #[.string e.path,.string (qab e.path).1,.string (qab e.path).2.1,.int .i64 e.who],.pointer (some ⟨tb,0,none⟩),.pointer (some ⟨g,k*9,none⟩),.int .i64 gr],fun x=>by kernel_rfl,?_⟩;have hm:mustP e=(qab e.path).1:=by unfold mustP;simp [q]
  have hc:chT T e k gr=addT T e.path (qea e.who):=by unfold chT;simp [q]
  rw [hm] at hid;rw [hc];refine (chCreate h hk hn hnx hok hr rfl (qdv (qga hok hmem)) e.path e.who gr).mono ?_;rintro a y ⟨rfl,gg,c1,hS⟩;refine ⟨rfl,gg,n+1,c1,_,hS,?_⟩;rw [hnds,hid]
  rfl
 ·rw [recV3 q]
  refine ⟨249,#[.agg #[.string e.path,.string e.dest,.string (qab e.dest).1,.string (qab e.dest).2.1],.pointer (some ⟨tb,0,none⟩),.pointer (some ⟨g,k*9,none⟩),.int .i64 gr],fun x=>by kernel_rfl,?_⟩;have hc:chT T e k gr=setN T k { ndAt T k with parent:=upX T e.dest,name:=(qab e.dest).2.1 }:=by unfold chT;simp [q]
  rw [hc,<-hrn];refine (chMove h hk hok hr rfl e.path e.dest gr).mono ?_;rintro a y ⟨rfl,hS⟩;exact ⟨rfl,g,n,cap,_,hS,hset _⟩
 ·rw [recV4 q]
  refine ⟨250,#[.agg #[.string e.path],.pointer (some ⟨tb,0,none⟩),.pointer (some ⟨g,k*9,none⟩),.int .i64 gr],fun x=>by kernel_rfl,?_⟩;have hc:chT T e k gr=dropT T (ndAt T k).id:=by unfold chT;simp [q]
  rw [hc,<-hrn];refine (chDrop h hk hn hok hr rfl (below_self hok hmem) e.path gr).mono ?_;rintro a y ⟨rfl,m,hS⟩;exact ⟨rfl,g,m,cap,_,hS,drop_nds hok hr hmem⟩
 ·rw [recV5 q]
  refine ⟨253,#[.agg #[.string e.path,.int .i64 e.num],.pointer (some ⟨tb,0,none⟩),.pointer (some ⟨g,k*9,none⟩),.int .i64 gr],fun x=>by kernel_rfl,?_⟩;have hc:chT T e k gr=setN T k { ndAt T k with schema:=e.num }:=by unfold chT;simp [q]
  rw [hc,<-hrn];refine (chSchema h hk _ e.path e.num gr).mono ?_;rintro a y ⟨rfl,hS⟩;exact ⟨rfl,g,n,cap,_,hS,hset _⟩
 ·rw [recV6 q]
  refine ⟨254,#[.agg #[.string e.path,.int .i64 e.num],.pointer (some ⟨tb,0,none⟩),.pointer (some ⟨g,k*9,none⟩),.int .i64 gr],fun x=>by kernel_rfl,?_⟩;have hc:chT T e k gr=setN T k { ndAt T k with quota:=e.num }:=by unfold chT;simp [q]
  rw [hc,<-hrn];refine (chQuota h hk _ e.path e.num gr).mono ?_;rintro a y ⟨rfl,hS⟩;exact ⟨rfl,g,n,cap,_,hS,hset _⟩
 ·rw [recV7 q]
  refine ⟨255,#[.agg #[.string e.path,.int .i64 e.num],.pointer (some ⟨tb,0,none⟩),.pointer (some ⟨g,k*9,none⟩),.int .i64 gr],fun x=>by kernel_rfl,?_⟩;have hc:chT T e k gr=setN T k { ndAt T k with pieces:=(ndAt T k).pieces++newP gr (qaw (ndAt T k).schema e.num),len:=(ndAt T k).len+e.num }:=by unfold chT;simp [q]
  have hn7:=(qfq hE (by omega)).2.2.2.2.2.1 q
  have hd:r.nd.dir=false:=by
   rw [<-hrn] at href;unfold refX qdk qca at href;simp [q] at href
   cases hd:r.nd.dir with
   | false=>rfl
   | true=>simp [hd] at href
  have hs:1<=r.nd.schema/\r.nd.schema<=3:=by
   have:=hpt.2.2.2.2.2.2 hd;unfold fileOk at this;simp only [Bool.and_eq_true,inI_iff] at this;omega
  rw [hc,<-hrn];refine (chAdd h hk _ e.path e.num gr (span_ne hs (by omega) (by omega)) (qkx _ _ (by omega)) (by omega) ⟨hpt.2.2.2.1,hpt.2.2.2.2.1⟩ (by omega) (by omega)).mono ?_;rintro a y ⟨rfl,lc,cp,hS⟩;exact ⟨rfl,g,n,cap,_,hS,hset _⟩
 ·rw [recV8 q]
  refine ⟨256,#[.agg #[.string e.path],.pointer (some ⟨tb,0,none⟩),.pointer (some ⟨g,k*9,none⟩),.int .i64 gr],fun x=>by kernel_rfl,?_⟩;have hc:chT T e k gr=setN T k { ndAt T k with writer:=0 }:=by unfold chT;simp [q]
  rw [hc,<-hrn];refine (chClose h hk _ e.path gr).mono ?_;rintro a y ⟨rfl,hS⟩;exact ⟨rfl,g,n,cap,_,hS,hset _⟩
 ·rw [recV9 q]
  refine ⟨257,#[.agg #[.string e.path,.int .i64 e.who],.pointer (some ⟨tb,0,none⟩),.pointer (some ⟨g,k*9,none⟩),.int .i64 gr],fun x=>by kernel_rfl,?_⟩;have hc:chT T e k gr=setN T k { ndAt T k with writer:=e.who }:=by unfold chT;simp [q]
  rw [hc,<-hrn];refine (chOpen h hk _ e.path e.who gr).mono ?_;rintro a y ⟨rfl,hS⟩;exact ⟨rfl,g,n,cap,_,hS,hset _⟩
 ·rw [qsd q]
  refine ⟨258,#[.agg #[.string e.path],.pointer (some ⟨tb,0,none⟩),.pointer (some ⟨g,k*9,none⟩),.int .i64 gr],fun x=>by kernel_rfl,?_⟩;have hc:chT T e k gr=T:=by unfold chT;simp [q]
  rw [hc];refine (chBoot W e.path _ _ gr).mono ?_;rintro a y ⟨rfl,hb⟩;exact ⟨rfl,g,n,cap,rs,h.below hb,hr⟩
end
end Go.Proofs.YtackbhpgdohimaaGreatDoor
