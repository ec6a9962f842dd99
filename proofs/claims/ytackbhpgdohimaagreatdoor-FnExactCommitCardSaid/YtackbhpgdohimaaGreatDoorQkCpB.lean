/- Texts of ours, laid one behind the other: CpB. -/
import Derived.Test.YtackbhpgdohimaaGreatDoorQk4
import Derived.Deep.CutRange
/- CpB: . -/
namespace Go.Proofs.YtackbhpgdohimaaGreatDoor
set_option maxRecDepth 100000
set_option maxHeartbeats 16000000
open Go.RowKit
attribute [local go_sem ↓] Go.wp_at_zero Go.wp_at_succ
section
variable {nx:Int} {gs:List NR} {cap hi lo n:Nat} {a:Option Addr} {T:TM} {v:Value} {w:World}
theorem qgh:(Tryz.prog.info? 143).map (fun i=>(i.zero,i.size,i.bytes))=some (some (.agg #[.int .i64 0,.int .i64 0]),2,16):=by kernel_rfl
theorem qbj {P:Program} (w:World) {ops:Array Oper} {rest:List Oper} {o:Oper} {a:Act} {Q:Exit->Act->World->Prop} (hg:o.guard=none) (s x:Operand) (t:TypeId) (hop:o.op = .call { callee:=.builtin .append,args:=#[s,x],argTypes:=#[t,t] })
  (sv xv:Value) (hs:a.eval s=sv) (hx:a.eval x=xv) (hrun:∀ ty,(Builtin.append_ #[t,t] ty #[sv,xv]).run P w = .ok sv w) (hK:wpList P ops Q rest (a.put o.dst sv) w):wpList P ops Q (o::rest) a w:=by
 refine wpList_plain hg fun K' hK'=>?_;unfold Oper.wp;simp [execOp,hop,resolve,invoke,builtin,hs,hx,hrun,Result.andThen];exact hK' _ _ hK
structure CP (w W:World) (a:Option Addr) (n cap:Nat) (nx:Int) (v:Value) (gs:List NR):Prop where
 bel:Below w.heap.size w W
 b1:WCells W w.heap.size [.slice a n cap,.int .i64 nx]
 b2:WCells W (w.heap.size+1) [.slice none 0 0,.int .i64 0]
 b3:WCells W (w.heap.size+1+1) [v,.int .i64 nx]
 nb:NB W (w.heap.size+3) v gs
theorem CP.below {w W W':World} (h:CP w W a n cap nx v gs) (hb:Below W.heap.size W W'):CP w W' a n cap nx v gs:=
 ⟨h.bel.trans (hb.mono h.bel.size),h.b1.grow hb,h.b2.grow hb,h.b3.grow hb,h.nb.below hb⟩
theorem CP.setX {w V:World} {c:Array Value} {fr:Nat × Nat} (h:CP w V a n cap nx v gs) (g i:Nat) (x:Value) (hg:V.heap[g]?=some (.cells c 90 fr)) (hv:v.ownBlock ≠ some g) (h3:w.heap.size+3<=g):CP w (V.setCell ⟨g,i,none⟩ x) a n cap nx v gs:=
 ⟨h.bel.setCell (p:=⟨g,i,none⟩) (by show w.heap.size<=g;omega) _,h.b1.other _ _ (by show w.heap.size ≠ g;omega),h.b2.other _ _ (by show w.heap.size+1 ≠ g;omega),h.b3.other _ _ (by show w.heap.size+1+1 ≠ g;omega),h.nb.setOut g i x hg (by decide) hv⟩
def CpPost (T:TM) (w:World) (e:Ending) (w':World):Prop:=∃ (a:Option Addr) (cap:Nat) (rs:List NR),e = .returned (.agg #[.slice a rs.length cap,.int .i64 T.next])/\nds rs=T.nodes/\NB w' w.heap.size (.slice a rs.length cap) rs/\Below w.heap.size w w'
theorem CpPost.tr {e:Ending} {w':World} (h:CpPost T w e w'):qla T w e w':=by
 obtain ⟨a,cap,rs,rfl,hr,hn,hb⟩:=h;obtain ⟨nodes,next⟩:=T;dsimp only at hr ⊢;subst hr;exact ⟨_,rfl,hn.fin,hb⟩
theorem NB.low {B C:Nat} {rs:List NR} (h:NB w B v rs) (hC:C<=B):NB w C v rs:=⟨qfr h.own hC,fun r hr=>qfr (h.rows r hr) hC,h.apart⟩
theorem qni (h:TSee w v T lo hi) (hf:NFit T):Calls Tryz.prog 40 #[v] w fun e w'=>CpPost T w e w':=by
 obtain ⟨a,cap,rs,rfl,hr,hm⟩:=h;have hrl:rs.length=T.nodes.length:=by rw [<-hr,qaf]
 have hl:rs.length<=1048576:=by unfold NFit at hf;omega
 have hp:∀ r ∈ rs,r.nd.pieces.length<=1048576:=fun r hx=>by
  have:=qep (ns:=T.nodes) (n:=r.nd) (by rw [<-hr];exact List.mem_map.2 ⟨r,hx,rfl⟩);unfold NFit at hf;omega
 obtain ⟨nds0,nx⟩:=T;dsimp only at *;subst hr;obtain ⟨n,hn⟩:∃ n,n=rs.length:=⟨_,rfl⟩;rw [<-hn] at hl ⊢;have HM:=zS hm;have HN:=zS hn;have HP:=zS hp;obtain ⟨i0,hin,hz0,hz1,hz2⟩:=info_parts qjn;obtain ⟨j0,hjn,hy0,hy1,hy2⟩:=info_parts qgh;clear hm hp hf hrl hn;go_enter Tryz.func40,Tryz.ntmps40;go_upto_region 2 with fail;refine qaa (fun W=>CP w W a n cap nx (.slice none 0 0) []) ?_ ?_
 ·have ht:=Tri.new w #[.slice a n cap,.int .i64 nx] #[.slice none 0 0,.int .i64 0] #[.slice none 0 0,.int .i64 nx] 37 37 37
  exact ⟨ht.bel,ht.b1,ht.b2,ht.b3,NB.nil _ _⟩
 intro W hW;have HW:=zS hW;clear hW;go_wp2_with fail;go_loopw [4] (fun i wr=>∃ (k:Nat) (gs:List NR) (vv:Value),i = .int .i64 k/\k<=n/\Sh (gs.length=k/\nds gs=nds (rs.take k))/\Sh (CP w wr a n cap nx vv gs)) (fun i _=>n - (intOf i).toNat)
 case atStart=>exact ⟨0,[],_,rfl,Nat.zero_le _,⟨rfl,by simp⟩,HW⟩
 case round =>
  clear HW;obtain ⟨k,gs,vv,rfl,hk,HG,hW⟩:=hrel;have x0:=(hW.1.b1.2 0 _ rfl).1;have lx:=hW.1.b1.1
  by_cases hlt:k<n
  ·have hkr:k<rs.length:=by rw [<-HN.1];exact hlt
   obtain ⟨b,off,rfl,lb,hc⟩:=TR.nat HM.1 (by omega);have hnk:=(hc k hkr).below hW.1.bel lb;have hpr:=(HM.1.2 _ (List.getElem_mem hkr)).below hW.1.bel;have hpl:=HP.1 _ (List.getElem_mem hkr);obtain ⟨r,hre⟩:∃ r,r=rs[k]:=⟨_,rfl⟩;rw [<-hre] at hnk hpr hpl;have HRE:=zS hre;have HPR:Sh (RRow wr r.loc (pcs r.nd.pieces) lo hi):=⟨hpr⟩;obtain ⟨c0,c1,c2,c3,c4,c5,c6,c7,c8⟩:=hnk;have lb':b<wr.heap.size:=Nat.lt_of_lt_of_le lb hW.1.bel.size;have k0:(0:Int)<=(k:Int):=by omega
   have k1:(k:Int)<(n:Int):=by omega
   clear hc hre hpr;obtain ⟨⟨id,parent,name,dir,schema,quota,len,pieces,writer⟩,loc,cp⟩:=r;dsimp only at *;obtain ⟨pn,hpn⟩:∃ pn,pn=pieces.length:=⟨_,rfl⟩;rw [<-hpn] at c7 hpl;have HPN:=zS hpn;clear hpn;go_upto_region 6 with fail;refine qaa (fun V=>CP w V (some ⟨b,off,none⟩) n cap nx vv gs/\WCells V wr.heap.size [.int .i64 id,.int .i64 parent,.string name,.bool dir,.int .i64 schema,.int .i64 quota,.int .i64 len,.slice loc pn cp,.int .i64 writer]/\V.heap[wr.heap.size]?=some (.cells #[.int .i64 id,.int .i64 parent,.string name,.bool dir,.int .i64 schema,.int .i64 quota,.int .i64 len,.slice loc pn cp,.int .i64 writer] 90 (0,0))/\RRow V loc (pcs pieces) lo hi/\V.heap.size=wr.heap.size+1) ⟨hW.1.below (zB.alloc zL _),qac wr #[.int .i64 id,.int .i64 parent,.string name,.bool dir,.int .i64 schema,.int .i64 quota,.int .i64 len,.slice loc pn cp,.int .i64 writer] 90,heap_alloc_new wr _,HPR.1.below (zB.alloc zL _),by simp⟩ ?_;rintro V ⟨hV,hXB,hXT,hPV,hsV⟩;have HV:=zS (And.intro hV (And.intro hXB (And.intro hXT (And.intro hPV hsV))));have y7:=(hXB.2 7 _ rfl).1;have f7:=(hXB.2 7 _ rfl).2;have lxb:=hXB.1;have hsz3:w.heap.size+3<=V.heap.size:=by have:=hV.b3.1;omega
   have HVB:Sh (∀ q,vv.ownBlock=some q->q<wr.heap.size):=⟨fun q e=>(hW.1.nb.own.lt q e).2⟩
   have HGB:Sh (∀ s ∈ gs,∀ q,s.loc=some ⟨q,0,none⟩->q<wr.heap.size):=⟨fun s hs q e=>by
    have h1:=hW.1.nb.rows s hs;rw [e] at h1
    exact (h1.lt q rfl).2⟩
   have hsw3:w.heap.size+3<=wr.heap.size:=by have:=hW.1.b3.1;omega
   clear hV hXB hXT hPV hsV c0 c1 c2 c3 c4 c5 c6 c7 c8 x0 HPR;go_cut [5] from 21 to 25 (fun u wx=>u = .pointer (some ⟨wr.heap.size,0,none⟩)/\Sh (∃ (loc':Option Addr) (cp':Nat),CP w wx (some ⟨b,off,none⟩) n cap nx vv gs/\WCells wx wr.heap.size [.int .i64 id,.int .i64 parent,.string name,.bool dir,.int .i64 schema,.int .i64 quota,.int .i64 len,.slice loc' pn cp',.int .i64 writer]/\(wx.ownsRow (w.heap.size+3) 143 2 (.slice loc' pn cp') pn (pcs pieces)/\∀ s ∈ gs,s.loc ≠ loc')))
   case first =>
    by_cases hpe:pieces=[]
    ·have hap:∀ (W:World) (g:Addr),∀ ty,(Builtin.append_ #[88,88] ty #[.slice (some g) 0 0,.slice loc 0 cp]).run Tryz.prog W = .ok (.slice (some g) 0 0) W:=fun W g ty=>by
      cases loc with
      | none=>exact run_append_nothing W _ _ _ _ j0 Tryz.underlying88 hjn (some g) 0 0 zL _ (Src.ofNil W Tryz.underlying88 cp)
      | some q=>exact run_append_nothing W _ _ _ _ j0 Tryz.underlying88 hjn (some g) 0 0 zL _ (Src.ofSlice W Tryz.underlying88 q 0 cp [] (by simp) (by simp) (by simp))
     subst hpe;have hp0:pn=0:=HPN.1;subst hp0;have HAP:=zS hap;clear hap;go_wp2_with (at_builtin;refine qbj _ rfl _ _ 88 rfl _ _ rfl rfl (HAP.1 _ _) ?_);go_meet
     case rel =>
      obtain ⟨q1,q2,q3,q4,q5⟩:=HV.1;have hs1:=q1.setX wr.heap.size 7 (.slice (some ⟨V.heap.size,0,none⟩) 0 0) q3 (fun e=>by have:=HVB.1 _ e;omega) hsw3;have hs2:=q2.set 7 (.slice (some ⟨V.heap.size,0,none⟩) 0 0) (by simp);have hm0:=World.ownsRow_made (e:=143) (size:=2) (base:=w.heap.size+3) (V.setCell ⟨wr.heap.size,7,none⟩ (.slice (some ⟨V.heap.size,0,none⟩) 0 0)) #[] 0 (by simp;omega) (by decide) rfl;have hsame:(V.setCell ⟨wr.heap.size,7,none⟩ (.slice (some ⟨V.heap.size,0,none⟩) 0 0)).heap.size=V.heap.size:=by simp
      rw [hsame] at hm0;exact ⟨rfl,⟨some ⟨V.heap.size,0,none⟩,0,hs1.below (zB.alloc zL _),hs2.alloc _,hm0,fun s hs e=>by have:=HGB.1 s hs _ e;omega⟩⟩
    ·obtain ⟨pb,poff,rfl,_,_,lpb,hpc⟩:=HV.1.2.2.2.1 (by have h0:pieces.length ≠ 0:=(by simpa using hpe);rw [qiv];omega)
     have HPC:Sh (∀ j u,(pcs pieces)[j]?=some u->V.cell? ⟨pb,poff+j,none⟩=some u):=⟨hpc⟩;have HPE:=zS hpe;have hmade:=World.ownsRow_made (e:=143) (size:=2) (base:=V.heap.size) V #[] 0 zL (by decide) rfl;clear hpc hpe;go_wp2_with (at_builtin;refine wpList_append_own _ rfl _ _ 88 rfl V.heap.size 143 j0 _ 2 16 Tryz.underlying88 hjn hy0 hy1 hy2 rfl (by decide) _ 0 [] rfl hmade ⟨pb,poff,none⟩ pn cp (pcs pieces) rfl ?c0 ?c1 ?c2 ?c3 ?c4 ?c5 ?_)
     case c0=>rw [qiv,HPN.1]
     case c1 =>
      intro j u hu;rw [show (Addr.add ⟨pb,poff,none⟩ j)=⟨pb,poff+j,none⟩ by unfold Addr.add;split <;> simp [*]];exact ((zB.alloc zL _:Below V.heap.size V (V.alloc (.cells #[] 143))).cell (p:=⟨pb,poff+j,none⟩) lpb).trans (HPC.1 j u hu)
     case c2 =>
      intro u hu;obtain ⟨y,_,hy⟩:=List.mem_flatMap.1 hu;simp [qei] at hy;rcases hy with rfl | rfl <;> rfl
     case c3=>unfold maxLen;omega
     case c4=>omega
     case c5=>simp
     intro v' w10 ho10 hgrow _;obtain ⟨q1,q2,q3,q4,q5⟩:=HV.1;have hpn0:pn ≠ 0:=fun e=>HPE.1 (List.eq_nil_of_length_eq_zero (HPN.1.symm.trans e));obtain ⟨pg,pcap,pcur,rfl,hpg,lpg,hpt⟩:=qfg ho10 hpn0;have hb10:Below V.heap.size V w10:=(zB.alloc zL _).grown hgrow (by simp) (fun q hq=>by cases hq;exact zL);have hc10:=q1.below hb10;have hx10:=q2.grow hb10;have ht10:w10.heap[wr.heap.size]?=_:=(hb10.block _ (by omega)).trans q3;have z7:=(hx10.2 7 _ rfl).1;have zf7:=(hx10.2 7 _ rfl).2;have lxb10:=hx10.1;have hset:=hc10.setX wr.heap.size 7 (.slice (some ⟨pg,0,none⟩) pn pcap) ht10 (fun e=>by have:=HVB.1 _ e;omega) hsw3;have hsx:=hx10.set 7 (.slice (some ⟨pg,0,none⟩) pn pcap) (by simp);have hpw:=qfr (ho10.kept (qam w10 wr.heap.size 7 (.slice (some ⟨pg,0,none⟩) pn pcap)) (.inr fun e=>by simp [Value.ownBlock] at e;omega)) hsz3;have HS:=zS (And.intro hset (And.intro hsx (And.intro hpw hpg)));clear ho10 hgrow hc10 hx10 ht10 hset hsx hpw q1 q2 q3 q4 hb10 hmade hpt;go_wp2_with fail;go_meet
     case rel =>
      refine ⟨rfl,⟨some ⟨pg,0,none⟩,pcap,HS.1.1,HS.1.2.1,HS.1.2.2.1,fun s hs e=>?_⟩⟩
      ·have:=HGB.1 s hs pg e
       have:=HS.1.2.2.2;omega
   case rest =>
    obtain ⟨rfl,hR⟩:=hcut;obtain ⟨loc',cp',hC,hX,hP'⟩:=hR.1;have HC:=zS (And.intro hC (And.intro hX hP'));have o0:=(hC.b3.2 0 _ rfl).1;have o0f:=(hC.b3.2 0 _ rfl).2;obtain ⟨d0,d1,d2,d3,d4,d5,d6,d7,d8⟩:=bwb9 hX;have ho:=hC.nb.own;have hlg:gs.length=k:=HG.1.1;rw [hlg] at ho;have hs3:w.heap.size+3<=wc.heap.size:=by have:=hC.b3.1;have:=hX.1;omega
    clear hC hX hP' hR hlg y7 f7 lxb hsz3 HV;go_wp2_with (at_builtin;refine wpList_append_own _ rfl _ _ 35 rfl (w.heap.size+3) 90 i0 _ 9 96 Tryz.underlying35 hin hz0 hz1 hz2 rfl (by decide) _ _ _ rfl (ho.alloc _) ⟨wc.heap.size,0,none⟩ 1 1 [.int .i64 id,.int .i64 parent,.string name,.bool dir,.int .i64 schema,.int .i64 quota,.int .i64 len,.slice loc' pn cp',.int .i64 writer] rfl rfl (World.news_of_block (cs:=#[.int .i64 id,.int .i64 parent,.string name,.bool dir,.int .i64 schema,.int .i64 quota,.int .i64 len,.slice loc' pn cp',.int .i64 writer]) (t:=90) (fr:=(0,0)) (heap_alloc_new wc _)) ?c2 ?c3 ?c4 ?c5 ?_)
    case c2=>simp [Value.oneCell']
    case c3=>unfold maxLen;omega
    case c4=>omega
    case c5=>first | omega | (simp;omega)
    intro v' w10 ho10 hgrow _;obtain ⟨q1,q2,q3⟩:=HC.1;obtain ⟨ng,ncap,ncur,rfl,hng,lng,hnt⟩:=qfg ho10 (by omega);have hba:Below wc.heap.size wc (wc.alloc (.cells #[.int .i64 id,.int .i64 parent,.string name,.bool dir,.int .i64 schema,.int .i64 quota,.int .i64 len,.slice loc' pn cp',.int .i64 writer] 90)):=zB.alloc zL _;have hnot:∀ c,c<w.heap.size+3->vv.ownBlock ≠ some c:=fun c hc e=>by have:=(q1.nb.own.lt c e).1;omega
    have hnb:NB w10 (w.heap.size+3) (.slice (some ⟨ng,0,none⟩) (k+1) ncap) (gs++[⟨⟨id,parent,name,dir,schema,quota,len,pieces,writer⟩,loc',cp'⟩]):=by
     refine NB.snoc (r:=⟨⟨id,parent,name,dir,schema,quota,len,pieces,writer⟩,loc',cp'⟩) q1.nb hba ?_ (fun _ s hs _=>q3.2 s hs) ?_ hgrow
     ·have:=q3.1.alloc (.cells #[.int .i64 id,.int .i64 parent,.string name,.bool dir,.int .i64 schema,.int .i64 quota,.int .i64 len,.slice loc' pn cp',.int .i64 writer] 90)
      show World.ownsRow _ _ _ _ (.slice loc' pieces.length cp') pieces.length (pcs pieces)
      rw [<-HPN.1];exact this
     ·rw [HG.1.1]
      unfold qaj;dsimp only;rw [<-HPN.1];exact ho10
    have hb10:Below w.heap.size w w10:=(q1.bel.alloc q1.bel.size _).grown hgrow (by have:=q1.bel.size;simp;omega) (fun q hq=>by have:=(q1.nb.own.lt q hq).1;omega);have e1:=wc_by (q1.b1.alloc (.cells #[.int .i64 id,.int .i64 parent,.string name,.bool dir,.int .i64 schema,.int .i64 quota,.int .i64 len,.slice loc' pn cp',.int .i64 writer] 90)) hgrow (hnot _ (by omega));have e2:=wc_by (q1.b2.alloc (.cells #[.int .i64 id,.int .i64 parent,.string name,.bool dir,.int .i64 schema,.int .i64 quota,.int .i64 len,.slice loc' pn cp',.int .i64 writer] 90)) hgrow (hnot _ (by omega));have e3:=wc_by (q1.b3.alloc (.cells #[.int .i64 id,.int .i64 parent,.string name,.bool dir,.int .i64 schema,.int .i64 quota,.int .i64 len,.slice loc' pn cp',.int .i64 writer] 90)) hgrow (hnot _ (by omega));have HN10:Sh (CP w (w10.setCell ⟨w.heap.size+1+1,0,none⟩ (.slice (some ⟨ng,0,none⟩) (k+1) ncap)) (some ⟨b,off,none⟩) n cap nx (.slice (some ⟨ng,0,none⟩) (k+1) ncap) (gs++[⟨⟨id,parent,name,dir,schema,quota,len,pieces,writer⟩,loc',cp'⟩])):=⟨hb10.setCell (p:=⟨w.heap.size+1+1,0,none⟩) (by show w.heap.size<=w.heap.size+1+1;omega) _,e1.other _ _ (by show w.heap.size ≠ w.heap.size+1+1;omega),e2.other _ _ (by show w.heap.size+1 ≠ w.heap.size+1+1;omega),e3.set 0 _ (by simp),hnb.setBox _ 0 _ (by omega)⟩;have o1:=(e3.2 0 _ rfl).1;have o1f:=(e3.2 0 _ rfl).2;clear ho10 hgrow q1 q2 q3 hba hnot hnb hb10 e1 e2 e3 hnt ho o0 o0f d0 d1 d2 d3 d4 d5 d6 d7 d8;go_wp2_with fail;go_roundw
    case rel =>
     refine ⟨k+1,_,_,by go_num,by omega,⟨by rw [List.length_append,HG.1.1];rfl,?_⟩,HN10⟩;rw [qci,HG.1.2,List.take_succ_eq_append_getElem hkr,qci,<-HRE.1]
    case measure=>simp [intOf];omega
  ·have k1:¬ (k:Int)<(n:Int):=by omega
   have hall:nds gs=nds rs:=by
    have:=HG.1.2;rw [this,List.take_of_length_le (by have:=HN.1;omega)]
   have HA:=zS hall;obtain ⟨va,vc,rfl⟩:=qhj hW.1.nb.own;obtain ⟨o0,o1⟩:=bwb2 hW.1.b3;have p0:=hW.1.b2.2 0 _ rfl;have p1:=hW.1.b2.2 1 _ rfl;obtain ⟨p0,p0f⟩:=p0;obtain ⟨p1,p1f⟩:=p1;have hlg:gs.length=k:=HG.1.1;rw [hlg] at o0
   have HFIN:Sh (WCells ((wr.setCell ⟨w.heap.size+1,0,none⟩ (.slice va k vc)).setCell ⟨w.heap.size+1,1,none⟩ (.int .i64 nx)) (w.heap.size+1) [.slice va k vc,.int .i64 nx]/\NB ((wr.setCell ⟨w.heap.size+1,0,none⟩ (.slice va k vc)).setCell ⟨w.heap.size+1,1,none⟩ (.int .i64 nx)) (w.heap.size+3) (.slice va k vc) gs/\Below w.heap.size w ((wr.setCell ⟨w.heap.size+1,0,none⟩ (.slice va k vc)).setCell ⟨w.heap.size+1,1,none⟩ (.int .i64 nx))):=by
    have hnb:=hW.1.nb;rw [hlg] at hnb;exact ⟨(hW.1.b2.set 0 _ (by simp)).set 1 _ (by simp),(hnb.setBox _ 0 _ (by omega)).setBox _ 1 _ (by omega),(hW.1.bel.setCell (p:=⟨w.heap.size+1,0,none⟩) (by show w.heap.size<=w.heap.size+1;omega) _).setCell (p:=⟨w.heap.size+1,1,none⟩) (by show w.heap.size<=w.heap.size+1;omega) _⟩
   clear hall hlg;go_wp2_with fail;refine qad (fun W=>WCells W (w.heap.size+1) [.slice va k vc,.int .i64 nx]/\NB W (w.heap.size+3) (.slice va k vc) gs/\Below w.heap.size w W) HFIN.1 ?_;rintro W8 ⟨h2,hnb,hb⟩;obtain ⟨r0,r1⟩:=bwb2 h2;refine bodyPost_ret (v:=.agg #[.slice va k vc,.int .i64 nx]) (by simp [results,Tryz.results40,go_sem,r0,r1]) rfl ?_;have hlg:gs.length=k:=HG.1.1;refine ⟨va,vc,gs,by rw [hlg],HA.1,?_,hb⟩;rw [hlg];exact hnb.low (by omega)
theorem qqb (h:TSee w v T lo hi) (hf:NFit T):Calls Tryz.prog 40 #[v] w fun e w'=>qla T w e w':=(qni h hf).mono fun _ _ q=>q.tr
end
end Go.Proofs.YtackbhpgdohimaaGreatDoor
