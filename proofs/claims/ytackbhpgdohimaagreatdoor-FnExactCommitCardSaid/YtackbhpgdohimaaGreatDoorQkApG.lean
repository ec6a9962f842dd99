/- Texts of ours, laid one behind the other: ApG. -/
import Derived.Test.YtackbhpgdohimaaGreatDoorQkApB
import Derived.Test.YtackbhpgdohimaaGreatDoorQk5
import Derived.Deep.AppendLies
import Derived.Deep.RegionLaw
/- ApG: . -/
namespace Go.Proofs.YtackbhpgdohimaaGreatDoor
set_option maxRecDepth 100000
set_option maxHeartbeats 16000000
open Go.RowKit
attribute [local go_sem ↓] Go.wp_at_zero Go.wp_at_succ
section
open BigFrame
variable {w:World}
structure WR (w W W0:World) (L:List (Nat × List Value)) (h1 h4 h9 n cap2 g2 k:Nat) (rs2:List NR) (nd:NM) (ps:List PM) (lc:Option Addr) (cp:Nat) (la:Option Addr) (ls:List Int):Prop where
 mb:MB w W L
 nb:NB W W0.heap.size (.slice (some ⟨g2,0,none⟩) n cap2) (rs2.set k ⟨{ nd with pieces:=ps },lc,cp⟩)
 loc:∀ q,lc=some q->W0.heap.size<=q.block/\(q.block<h1\/h9<=q.block)
 lst:ls=[]\/∃ g,la=some ⟨g,0,none⟩/\h4<=g/\g<h9/\WCells W g (ics ls)
 sz:h9<=W.heap.size
theorem WR.step {w W W0 w5:World} {L:List (Nat × List Value)} {h1 h4 h9 n cap2 g2 k gg cap1 pl:Nat} {rs2:List NR} {nd:NM} {ps:List PM} {lc:Option Addr} {cp:Nat} {la:Option Addr} {ls:List Int} {o:Obj} {new:PM} (h:WR w W W0 L h1 h4 h9 n cap2 g2 k rs2 nd ps lc cp la ls) (hrl:rs2.length=n) (hk:k<rs2.length) (hpl:pl=ps.length)
  (a1:W0.heap.size<=g2) (a2:g2<h1) (a3:h1<=h4) (a4:h4<=h9) (hL:∀ p ∈ L,p.1<W0.heap.size\/(h1<=p.1/\p.1<h4)) (hw:w.heap.size<=W0.heap.size)
  (hgrow:((W.alloc o).drew).grownBy w5 (Value.slice lc pl cp).ownBlock) (ho:w5.ownsRow W0.heap.size 143 2 (.slice (some ⟨gg,0,none⟩) (pl+1) cap1) (pl+1) (pcs ps++qei new)) (hat:(Value.slice lc pl cp).ownBlock=some gg\/gg=W.heap.size+1) :
  WR w (w5.setCell ⟨g2,k*9+7,none⟩ (.slice (some ⟨gg,0,none⟩) (pl+1) cap1)) W0 L h1 h4 h9 n cap2 g2 k rs2 nd (ps++[new]) (some ⟨gg,0,none⟩) cap1 la ls:=by
 subst hpl;have a5:=h.sz;have hba:Below W.heap.size W (W.alloc o).drew:=(zB.alloc zL _).drew
 have hrow:∀ j,(Value.slice lc ps.length cp).ownBlock=some j->W0.heap.size<=j/\(j<h1\/h9<=j):=fun j e=>by
  cases hl:lc with
  | none=>rw [hl] at e;cases e
  | some q =>
   rw [hl] at e;simp [Value.ownBlock] at e;rw [<-e];exact h.loc q hl
 have hgt:W0.heap.size<=gg/\(gg<h1\/h9<=gg):=by
  rcases hat with e | e
  ·exact hrow gg e
  ·omega
 have M1:MB w w5 L:=(h.mb.below hba).far hgrow (fun p hp e=>by have:=hL p hp;have:=hrow _ e;omega) (fun j e=>by have:=hrow j e;omega);refine ⟨M1.far (qam _ _ _ _) (fun p hp e=>by have:=hL p hp;simp at e;omega) (fun j e=>by simp at e;omega),?_,fun q e=>by cases e;exact hgt,?_,?_⟩
 ·have hg:=h.nb.grow (k:=k) (r:=⟨{ nd with pieces:=ps },lc,cp⟩) (new:=new) (by rw [List.length_set];exact hrl) (by rw [List.getElem?_set_self hk]) hgrow ho hat
  rw [List.set_set] at hg;exact hg
 ·rcases h.lst with e | ⟨g,e1,e2,e3,e4⟩
  ·exact .inl e
  ·exact .inr ⟨g,e1,e2,e3,(wc_by (e4.grow hba) hgrow (fun e=>by have:=hrow g e;omega)).other _ _ (by show g ≠ g2;omega)⟩
 ·have:=hgrow.size
  simp at this ⊢;omega
theorem specWrite {v:Value} {T:TM} {lo hi:Nat} (e:EM) (k:Nat) (gr:Int) (h:TSee w v T lo hi) (hf:NFit T) (hk:k<T.nodes.length) (hg:0<=gr/\gr<=1000000) (hnum:0<=e.num/\e.num<=1000000) (hlen:0<=(ndAt T k).len/\(ndAt T k).len<=1000000):Calls Tryz.prog 51 #[v,ev e,.int .i64 k,.int .i64 gr] w fun r w'=>qja (qcd T e k gr) w r w':=by
 have HRM:=zS (fun (i m:Int) (W:World) (hb:Below w.heap.size w W)=>specRoomFor i m (h.below hb) hf);have HCP:=zS (fun (W:World) (n:Nat) (hn:n=T.nodes.length) (hb:Below w.heap.size w W)=>qfp (h.below hb) hf hn);have hl:T.nodes.length<=1048576:=by unfold NFit at hf;omega
 have hpl:(ndAt T k).pieces.length<=1048576:=by
  have:ndAt T k ∈ T.nodes:=by unfold ndAt;rw [List.getD,List.getElem?_eq_getElem hk];exact List.getElem_mem hk
  have:=qep this;unfold NFit at hf;omega
 obtain ⟨a,cap,rs,rfl,hr,hm⟩:=h;obtain ⟨nodes,nx⟩:=T;dsimp only at *;subst hr;have hkr:k<rs.length:=by rw [qaf] at hk;exact hk
 obtain ⟨b,off,rfl,lb,hnk⟩:=qnc hm k hkr;have hnd:ndAt ⟨nds rs,nx⟩ k=rs[k].nd:=by simp [ndAt,nds,List.getD,hkr]
 rw [hnd] at hlen hpl;have HND:=zS hnd;obtain ⟨r,hre⟩:∃ r,r=rs[k]:=⟨_,rfl⟩;rw [<-hre] at HND hnk hlen hpl;have HRE:Sh (rs[k]?=some r):=⟨by rw [hre];simp [hkr]⟩;obtain ⟨n,hn⟩:∃ n,n=rs.length:=⟨_,rfl⟩;have hkn:k<n:=by omega
 have hn':n<=1048576:=by rw [qaf] at hl;omega
 rw [<-hn] at HRM HCP ⊢;have HN:=zS hn;have HNK:=zS hnk;clear hk hre hn hm hf hl hnk hkr hnd;have HX:Sh (qcd ⟨nds rs,nx⟩ e k gr=if r.nd.dir=true then (⟨nds rs,nx⟩,3) else if ((e.kind==9) != (r.nd.writer==0))=true then (⟨nds rs,nx⟩,6) else if e.kind=9 then (setN ⟨nds rs,nx⟩ k { r.nd with writer:=e.who },0) else if e.kind=8 then (setN ⟨nds rs,nx⟩ k { r.nd with writer:=0 },0) else if roomX ⟨nds rs,nx⟩ r.nd.id e.num=false\/1000<r.nd.len+e.num then (⟨nds rs,nx⟩,5) else if 40<r.nd.pieces.length+(qaw r.nd.schema e.num).length then (⟨nds rs,nx⟩,8) else (setN ⟨nds rs,nx⟩ k { r.nd with pieces:=r.nd.pieces++newP gr (qaw r.nd.schema e.num),len:=r.nd.len+e.num },0)):=⟨by unfold qcd;rw [HND.1]⟩;generalize qcd ⟨nds rs,nx⟩ e k gr=R at HX ⊢;obtain ⟨kind,path,dest,num,who⟩:=e;obtain ⟨⟨id,parent,name,dir,schema,quota,len,pieces,writer⟩,loc,cp⟩:=r;dsimp only at *;obtain ⟨g0,g1⟩:=hg;obtain ⟨u0,u1⟩:=hnum;obtain ⟨v0,v1⟩:=hlen;have k0:(0:Int)<=(k:Int):=by omega
 have k1:(k:Int)<(n:Int):=by omega
 obtain ⟨pn,hpn⟩:∃ pn,pn=pieces.length:=⟨_,rfl⟩;have HPN:=zS hpn;rw [<-hpn] at hpl HX;go_enter Tryz.func51,Tryz.ntmps51;go_upto_region 1 with fail;refine qaa (fun W=>MB w W [(w.heap.size+1+1,[.slice none 0 0,.int .i64 0]),(w.heap.size+1,qbg ⟨kind,path,dest,num,who⟩),(w.heap.size,[.slice (some ⟨b,off,none⟩) n cap,.int .i64 nx])]) (MB.three w _ _ _ _ _ _) ?_;intro W0 hM;have HM:=zS hM;clear hM;obtain ⟨x0,x1⟩:=bwb2 ((HM.1.at 2 rfl).1);have hsw:=zS (HM.1.at 0 rfl).1.1;have hsw0:=zS HM.1.bel.size;have HC:=zS (HCP.1 W0 n (by rw [qaf];exact HN.1) HM.1.bel);go_upto_region 2 with (go_at_call 40;refine HC.1.mono ?_;rintro e w1 ⟨a2,cap2,rs2,rfl,hl2,hr2,hnb,hb1⟩;have HR2:=zS (And.intro hl2 hr2);have HNB:=zS hnb;replace HM:=zS (HM.1.below hb1);clear hl2 hr2 hnb x0 x1;have HB1:=zS hb1;clear hb1);obtain ⟨g2,rfl,hg2,hg2',-⟩:=HNB.1.blk HR2.1.1 (by omega);have HG2:=zS (And.intro hg2 hg2');have HLT2:=zS HNB.1.lts;clear hg2 hg2';have HM2:Sh (MB w (w1.alloc (.cells #[.slice (some ⟨g2,0,none⟩) n cap2,.int .i64 nx] 37)) [(w1.heap.size,[.slice (some ⟨g2,0,none⟩) n cap2,.int .i64 nx]),(w.heap.size+1+1,[.slice none 0 0,.int .i64 0]),(w.heap.size+1,qbg ⟨kind,path,dest,num,who⟩),(w.heap.size,[.slice (some ⟨b,off,none⟩) n cap,.int .i64 nx])]):=⟨HM.1.new _ _⟩;have t0:=((HM2.1.at 3 rfl).1.2 0 _ rfl).1;obtain ⟨c0,c1,c2,c3,c4,c5,c6,c7,c8⟩:=HNK.1.below HM2.1.bel lb;dsimp only at c0 c1 c2 c3 c4 c5 c6 c7 c8;rw [<-hpn] at c7;clear hpn;go_upto_region 3 with fail;have hsz1:(w1.alloc (.cells #[.slice (some ⟨g2,0,none⟩) n cap2,.int .i64 nx] 37)).heap.size=w1.heap.size+1:=by simp
 have HM3:Sh (MB w ((w1.alloc (.cells #[.slice (some ⟨g2,0,none⟩) n cap2,.int .i64 nx] 37)).alloc (.cells #[.int .i64 id,.int .i64 parent,.string name,.bool dir,.int .i64 schema,.int .i64 quota,.int .i64 len,.slice loc pn cp,.int .i64 writer] 90)) [(w1.heap.size+1,[.int .i64 id,.int .i64 parent,.string name,.bool dir,.int .i64 schema,.int .i64 quota,.int .i64 len,.slice loc pn cp,.int .i64 writer]),(w1.heap.size,[.slice (some ⟨g2,0,none⟩) n cap2,.int .i64 nx]),(w.heap.size+1+1,[.slice none 0 0,.int .i64 0]),(w.heap.size+1,qbg ⟨kind,path,dest,num,who⟩),(w.heap.size,[.slice (some ⟨b,off,none⟩) n cap,.int .i64 nx])]):=⟨by
  have:=HM2.1.new #[.int .i64 id,.int .i64 parent,.string name,.bool dir,.int .i64 schema,.int .i64 quota,.int .i64 len,.slice loc pn cp,.int .i64 writer] 90;rw [hsz1] at this
  exact this⟩
 refine qaa (fun W=>MB w W [(w1.heap.size+1,[.int .i64 id,.int .i64 parent,.string name,.bool dir,.int .i64 schema,.int .i64 quota,.int .i64 len,.slice loc pn cp,.int .i64 writer]),(w1.heap.size,[.slice (some ⟨g2,0,none⟩) n cap2,.int .i64 nx]),(w.heap.size+1+1,[.slice none 0 0,.int .i64 0]),(w.heap.size+1,qbg ⟨kind,path,dest,num,who⟩),(w.heap.size,[.slice (some ⟨b,off,none⟩) n cap,.int .i64 nx])]/\NB W W0.heap.size (.slice (some ⟨g2,0,none⟩) n cap2) rs2) ⟨HM3.1,(HNB.1.below (zB.alloc zL _)).below (zB.alloc zL _)⟩ ?_;rintro W1 ⟨hM1,hN1⟩;have HM1:=zS hM1;have HN1:=zS hN1;clear hM1 hN1 HM HNB HC HM2 HM3 t0 c0 c1 c2 c3 c4 c5 c6 c7 c8 hsz1;obtain ⟨loc2,cp2,hd2⟩:=qpk HR2.1.2 HRE.1;have HD2:=zS hd2;dsimp only at HD2;clear hd2
 have HGB:Sh (∀ (W W':World) (q:Option Nat),MB w W [(w1.heap.size+1,[.int .i64 id,.int .i64 parent,.string name,.bool dir,.int .i64 schema,.int .i64 quota,.int .i64 len,.slice loc pn cp,.int .i64 writer]),(w1.heap.size,[.slice (some ⟨g2,0,none⟩) n cap2,.int .i64 nx]),(w.heap.size+1+1,[.slice none 0 0,.int .i64 0]),(w.heap.size+1,qbg ⟨kind,path,dest,num,who⟩),(w.heap.size,[.slice (some ⟨b,off,none⟩) n cap,.int .i64 nx])]->W.grownBy W' q->(∀ j,q=some j->W0.heap.size<=j/\(j<w1.heap.size\/w1.heap.size+1+1<=j))->MB w W' [(w1.heap.size+1,[.int .i64 id,.int .i64 parent,.string name,.bool dir,.int .i64 schema,.int .i64 quota,.int .i64 len,.slice loc pn cp,.int .i64 writer]),(w1.heap.size,[.slice (some ⟨g2,0,none⟩) n cap2,.int .i64 nx]),(w.heap.size+1+1,[.slice none 0 0,.int .i64 0]),(w.heap.size+1,qbg ⟨kind,path,dest,num,who⟩),(w.heap.size,[.slice (some ⟨b,off,none⟩) n cap,.int .i64 nx])]):=⟨fun W W' q M hg hq=>M.far hg (fun p hp e=>by
  have h1:=hq _ e;have h2:=hsw.1;simp only [List.mem_cons,List.not_mem_nil,or_false] at hp
  rcases hp with rfl | rfl | rfl | rfl | rfl <;> simp at h1 <;> omega) (fun j hj=>by have:=hq j hj;have:=hsw.1;omega)⟩
 have HGS:Sh (∀ (W:World) (i:Nat) (x:Value),MB w W [(w1.heap.size+1,[.int .i64 id,.int .i64 parent,.string name,.bool dir,.int .i64 schema,.int .i64 quota,.int .i64 len,.slice loc pn cp,.int .i64 writer]),(w1.heap.size,[.slice (some ⟨g2,0,none⟩) n cap2,.int .i64 nx]),(w.heap.size+1+1,[.slice none 0 0,.int .i64 0]),(w.heap.size+1,qbg ⟨kind,path,dest,num,who⟩),(w.heap.size,[.slice (some ⟨b,off,none⟩) n cap,.int .i64 nx])]->MB w (W.setCell ⟨g2,i,none⟩ x) [(w1.heap.size+1,[.int .i64 id,.int .i64 parent,.string name,.bool dir,.int .i64 schema,.int .i64 quota,.int .i64 len,.slice loc pn cp,.int .i64 writer]),(w1.heap.size,[.slice (some ⟨g2,0,none⟩) n cap2,.int .i64 nx]),(w.heap.size+1+1,[.slice none 0 0,.int .i64 0]),(w.heap.size+1,qbg ⟨kind,path,dest,num,who⟩),(w.heap.size,[.slice (some ⟨b,off,none⟩) n cap,.int .i64 nx])]):=⟨fun W i x M=>HGB.1 W _ _ M (qam W g2 i x) (fun j hj=>by cases hj;have:=HG2.1;omega)⟩;obtain ⟨x0,x1⟩:=bwb2 ((HM1.1.at 4 rfl).1);have y0:=((HM1.1.at 3 rfl).1.2 0 _ rfl).1;have y3:=((HM1.1.at 3 rfl).1.2 3 _ rfl).1;have y4:=((HM1.1.at 3 rfl).1.2 4 _ rfl).1;obtain ⟨z0,zf0,z1,zf1⟩:=bwc2 ((HM1.1.at 1 rfl).1);obtain ⟨q0,qf0,q1,qf1⟩:=bwc2 ((HM1.1.at 2 rfl).1);have m0:=((HM1.1.at 0 rfl).1.2 0 _ rfl).1;have m3:=((HM1.1.at 0 rfl).1.2 3 _ rfl).1;have m4:=((HM1.1.at 0 rfl).1.2 4 _ rfl).1;have m6:=((HM1.1.at 0 rfl).1.2 6 _ rfl).1;have m7:=((HM1.1.at 0 rfl).1.2 7 _ rfl).1;have m8:=((HM1.1.at 0 rfl).1.2 8 _ rfl).1;dsimp only at y0 y3 y4
 cases dir with
 | true =>
  have HXX:Sh (R=(⟨nds rs,nx⟩,3)):=⟨by rw [HX.1,if_pos rfl]⟩;go_wp2_with fail;refine qad (fun W=>FinT w W (w.heap.size+1+1) (.slice (some ⟨g2,0,none⟩) n cap2) nx ⟨nds rs,nx⟩) (TAns.fin9 ((HM1.1.put 2 rfl 0 _ (by simp)).put 2 rfl 1 _ (by simp)) 2 rfl ((HN1.1.setBox _ 0 _ hsw.1).setBox _ 1 _ hsw.1) HR2.1.2 hsw0.1) ?_;rintro W8 ⟨r0,r1,hans,hbel⟩;refine bodyPost_ret (v:=.tuple #[.agg #[.slice (some ⟨g2,0,none⟩) n cap2,.int .i64 nx],.int .i64 3]) (by simp [results,Tryz.results51,go_sem,r0,r1]) rfl ⟨_,by rw [HXX.1],by rw [HXX.1];exact hans,hbel⟩
 | false =>
 by_cases h6:((kind==9) != (writer==0))=true
 ·have HXX:Sh (R=(⟨nds rs,nx⟩,6)):=⟨by rw [HX.1,if_neg (by simp),if_pos h6]⟩
  obtain ⟨q5,q6,e5,e6,e7⟩:∃ q5 q6:Bool,(kind==9)=q5/\(writer==0)=q6/\(q5 != q6)=true:=⟨_,_,rfl,rfl,h6⟩;clear h6;cases q5 <;> cases q6 <;> first | (exact absurd e7 (by decide)) | skip
  all_goals
   clear e7;go_wp2_with fail;refine qad (fun W=>FinT w W (w.heap.size+1+1) (.slice (some ⟨g2,0,none⟩) n cap2) nx ⟨nds rs,nx⟩) (TAns.fin9 ((HM1.1.put 2 rfl 0 _ (by simp)).put 2 rfl 1 _ (by simp)) 2 rfl ((HN1.1.setBox _ 0 _ hsw.1).setBox _ 1 _ hsw.1) HR2.1.2 hsw0.1) ?_;rintro W8 ⟨r0,r1,hans,hbel⟩;refine bodyPost_ret (v:=.tuple #[.agg #[.slice (some ⟨g2,0,none⟩) n cap2,.int .i64 nx],.int .i64 6]) (by simp [results,Tryz.results51,go_sem,r0,r1]) rfl ⟨_,by rw [HXX.1],by rw [HXX.1];exact hans,hbel⟩
 have h6':((kind==9) != (writer==0))=false:=by simpa using h6
 by_cases h9:kind=9
 ·have b9:(kind==9)=true:=by simp [h9]
  have HXX:Sh (R=(setN ⟨nds rs,nx⟩ k ⟨id,parent,name,false,schema,quota,len,pieces,who⟩,0)):=⟨by rw [HX.1,if_neg (by simp),if_neg h6,if_pos h9]⟩
  have bw:(writer==0)=true:=by
   rw [b9] at h6'
   cases hw:(writer==0) with
   | true=>rfl
   | false=>rw [hw] at h6';cases h6'
  clear h9 h6 h6';obtain ⟨s8,sf8⟩:=HN1.1.cellK HR2.1.1 HD2.1 8 _ rfl;dsimp only at s8;go_wp2_with fail;refine qad (fun W=>FinT w W (w.heap.size+1+1) (.slice (some ⟨g2,0,none⟩) n cap2) nx (setN ⟨nds rs,nx⟩ k ⟨id,parent,name,false,schema,quota,len,pieces,who⟩)) (TAns.fin9 (((HGS.1 _ (k*9+8) (.int .i64 who) HM1.1).put 2 rfl 0 _ (by simp)).put 2 rfl 1 _ (by simp)) 2 rfl (((HN1.1.putK HR2.1.1 HD2.1 8 (by omega) (.int .i64 who) ⟨⟨id,parent,name,false,schema,quota,len,pieces,who⟩,loc2,cp2⟩ rfl rfl rfl rfl).setBox _ 0 _ hsw.1).setBox _ 1 _ hsw.1) (by rw [qfe,HR2.1.2]) hsw0.1) ?_;rintro W8 ⟨r0,r1,hans,hbel⟩;refine bodyPost_ret (v:=.tuple #[.agg #[.slice (some ⟨g2,0,none⟩) n cap2,.int .i64 nx],.int .i64 0]) (by simp [results,Tryz.results51,go_sem,r0,r1]) rfl ⟨_,by rw [HXX.1],by rw [HXX.1];exact hans,hbel⟩
 have b9:(kind==9)=false:=by simp [h9]
 have bw:(writer==0)=false:=by
  rw [b9] at h6'
  cases hw:(writer==0) with
  | false=>rfl
  | true=>rw [hw] at h6';cases h6'
 by_cases h8:kind=8
 ·have b8:(kind==8)=true:=by simp [h8]
  have HXX:Sh (R=(setN ⟨nds rs,nx⟩ k ⟨id,parent,name,false,schema,quota,len,pieces,0⟩,0)):=⟨by rw [HX.1,if_neg (by simp),if_neg h6,if_neg h9,if_pos h8]⟩;clear h8 h9 h6 h6';obtain ⟨s8,sf8⟩:=HN1.1.cellK HR2.1.1 HD2.1 8 _ rfl;dsimp only at s8;go_wp2_with fail;refine qad (fun W=>FinT w W (w.heap.size+1+1) (.slice (some ⟨g2,0,none⟩) n cap2) nx (setN ⟨nds rs,nx⟩ k ⟨id,parent,name,false,schema,quota,len,pieces,0⟩)) (TAns.fin9 (((HGS.1 _ (k*9+8) (.int .i64 0) HM1.1).put 2 rfl 0 _ (by simp)).put 2 rfl 1 _ (by simp)) 2 rfl (((HN1.1.putK HR2.1.1 HD2.1 8 (by omega) (.int .i64 0) ⟨⟨id,parent,name,false,schema,quota,len,pieces,0⟩,loc2,cp2⟩ rfl rfl rfl rfl).setBox _ 0 _ hsw.1).setBox _ 1 _ hsw.1) (by rw [qfe,HR2.1.2]) hsw0.1) ?_;rintro W8 ⟨r0,r1,hans,hbel⟩;refine bodyPost_ret (v:=.tuple #[.agg #[.slice (some ⟨g2,0,none⟩) n cap2,.int .i64 nx],.int .i64 0]) (by simp [results,Tryz.results51,go_sem,r0,r1]) rfl ⟨_,by rw [HXX.1],by rw [HXX.1];exact hans,hbel⟩
 have b8:(kind==8)=false:=by simp [h8]
 have HX2:Sh (R=if roomX ⟨nds rs,nx⟩ id num=false\/1000<len+num then (⟨nds rs,nx⟩,5) else if 40<pn+(qaw schema num).length then (⟨nds rs,nx⟩,8) else (setN ⟨nds rs,nx⟩ k ⟨id,parent,name,false,schema,quota,len+num,pieces++newP gr (qaw schema num),writer⟩,0)):=⟨by rw [HX.1,if_neg (by simp),if_neg h6,if_neg h9,if_neg h8]⟩;clear h8 h9 h6 h6' HX;have HRM2:=zS (fun (W:World) (hb:Below w.heap.size w W)=>HRM.1 id num W hb);obtain ⟨rm,hrm⟩:∃ q,q=roomX ⟨nds rs,nx⟩ id num:=⟨_,rfl⟩;rw [<-hrm] at HRM2 HX2;clear hrm HRM
 cases rm with
 | false =>
  have HXX:Sh (R=(⟨nds rs,nx⟩,5)):=⟨by rw [HX2.1,if_pos (.inl rfl)]⟩;go_wp2_with (go_at_call 90;refine (HRM2.1 _ HM1.1.bel).mono ?_;rintro e w4 ⟨rfl,hb4⟩;replace HM1:=zS (HM1.1.below hb4);replace HN1:=zS (HN1.1.below hb4);clear x0 x1 y0 y3 y4 z0 zf0 z1 zf1 q0 qf0 q1 qf1 m0 m3 m4 m6 m7 m8 hb4;have x0:=((HM1.1.at 4 rfl).1.2 0 _ rfl).1;have x1:=((HM1.1.at 4 rfl).1.2 1 _ rfl).1;have y0:=((HM1.1.at 3 rfl).1.2 0 _ rfl).1;have y3:=((HM1.1.at 3 rfl).1.2 3 _ rfl).1;have y4:=((HM1.1.at 3 rfl).1.2 4 _ rfl).1;obtain ⟨z0,zf0⟩:=(HM1.1.at 1 rfl).1.2 0 _ rfl;obtain ⟨z1,zf1⟩:=(HM1.1.at 1 rfl).1.2 1 _ rfl;obtain ⟨q0,qf0⟩:=(HM1.1.at 2 rfl).1.2 0 _ rfl;obtain ⟨q1,qf1⟩:=(HM1.1.at 2 rfl).1.2 1 _ rfl;have m0:=((HM1.1.at 0 rfl).1.2 0 _ rfl).1;have m3:=((HM1.1.at 0 rfl).1.2 3 _ rfl).1;have m4:=((HM1.1.at 0 rfl).1.2 4 _ rfl).1;have m6:=((HM1.1.at 0 rfl).1.2 6 _ rfl).1;have m7:=((HM1.1.at 0 rfl).1.2 7 _ rfl).1;have m8:=((HM1.1.at 0 rfl).1.2 8 _ rfl).1;dsimp only at y0 y3 y4);refine qad (fun W=>FinT w W (w.heap.size+1+1) (.slice (some ⟨g2,0,none⟩) n cap2) nx ⟨nds rs,nx⟩) (TAns.fin9 ((HM1.1.put 2 rfl 0 _ (by simp)).put 2 rfl 1 _ (by simp)) 2 rfl ((HN1.1.setBox _ 0 _ hsw.1).setBox _ 1 _ hsw.1) HR2.1.2 hsw0.1) ?_;rintro W8 ⟨r0,r1,hans,hbel⟩;refine bodyPost_ret (v:=.tuple #[.agg #[.slice (some ⟨g2,0,none⟩) n cap2,.int .i64 nx],.int .i64 5]) (by simp [results,Tryz.results51,go_sem,r0,r1]) rfl ⟨_,by rw [HXX.1],by rw [HXX.1];exact hans,hbel⟩
 | true =>
 by_cases hbig:1000<len+num
 ·have HXX:Sh (R=(⟨nds rs,nx⟩,5)):=⟨by rw [HX2.1,if_pos (.inr hbig)]⟩
  go_wp2_with (go_at_call 90;refine (HRM2.1 _ HM1.1.bel).mono ?_;rintro e w4 ⟨rfl,hb4⟩;replace HM1:=zS (HM1.1.below hb4);replace HN1:=zS (HN1.1.below hb4);clear x0 x1 y0 y3 y4 z0 zf0 z1 zf1 q0 qf0 q1 qf1 m0 m3 m4 m6 m7 m8 hb4;have x0:=((HM1.1.at 4 rfl).1.2 0 _ rfl).1;have x1:=((HM1.1.at 4 rfl).1.2 1 _ rfl).1;have y0:=((HM1.1.at 3 rfl).1.2 0 _ rfl).1;have y3:=((HM1.1.at 3 rfl).1.2 3 _ rfl).1;have y4:=((HM1.1.at 3 rfl).1.2 4 _ rfl).1;obtain ⟨z0,zf0⟩:=(HM1.1.at 1 rfl).1.2 0 _ rfl;obtain ⟨z1,zf1⟩:=(HM1.1.at 1 rfl).1.2 1 _ rfl;obtain ⟨q0,qf0⟩:=(HM1.1.at 2 rfl).1.2 0 _ rfl;obtain ⟨q1,qf1⟩:=(HM1.1.at 2 rfl).1.2 1 _ rfl;have m0:=((HM1.1.at 0 rfl).1.2 0 _ rfl).1;have m3:=((HM1.1.at 0 rfl).1.2 3 _ rfl).1;have m4:=((HM1.1.at 0 rfl).1.2 4 _ rfl).1;have m6:=((HM1.1.at 0 rfl).1.2 6 _ rfl).1;have m7:=((HM1.1.at 0 rfl).1.2 7 _ rfl).1;have m8:=((HM1.1.at 0 rfl).1.2 8 _ rfl).1;dsimp only at y0 y3 y4);refine qad (fun W=>FinT w W (w.heap.size+1+1) (.slice (some ⟨g2,0,none⟩) n cap2) nx ⟨nds rs,nx⟩) (TAns.fin9 ((HM1.1.put 2 rfl 0 _ (by simp)).put 2 rfl 1 _ (by simp)) 2 rfl ((HN1.1.setBox _ 0 _ hsw.1).setBox _ 1 _ hsw.1) HR2.1.2 hsw0.1) ?_;rintro W8 ⟨r0,r1,hans,hbel⟩;refine bodyPost_ret (v:=.tuple #[.agg #[.slice (some ⟨g2,0,none⟩) n cap2,.int .i64 nx],.int .i64 5]) (by simp [results,Tryz.results51,go_sem,r0,r1]) rfl ⟨_,by rw [HXX.1],by rw [HXX.1];exact hans,hbel⟩
 have HX3:Sh (R=if 40<pn+(qaw schema num).length then (⟨nds rs,nx⟩,8) else (setN ⟨nds rs,nx⟩ k ⟨id,parent,name,false,schema,quota,len+num,pieces++newP gr (qaw schema num),writer⟩,0)):=⟨by rw [HX2.1,if_neg (by simp;omega)]⟩;have HSP:=zS (fun W=>specSpans schema num W);obtain ⟨ls,hls⟩:∃ q,q=qaw schema num:=⟨_,rfl⟩;rw [<-hls] at HX3 HSP;have hll:ls.length<=1001:=by rw [hls];exact spansX_len schema num
 clear hls HX2
 go_upto_region 17 with (first
  | (go_at_call 90;refine (HRM2.1 _ HM1.1.bel).mono ?_;rintro e w4 ⟨rfl,hb4⟩;replace HM1:=zS (HM1.1.below hb4);replace HN1:=zS (HN1.1.below hb4);clear x0 x1 y0 y3 y4 z0 zf0 z1 zf1 q0 qf0 q1 qf1 m0 m3 m4 m6 m7 m8 hb4;have x0:=((HM1.1.at 4 rfl).1.2 0 _ rfl).1;have x1:=((HM1.1.at 4 rfl).1.2 1 _ rfl).1;have y0:=((HM1.1.at 3 rfl).1.2 0 _ rfl).1;have y3:=((HM1.1.at 3 rfl).1.2 3 _ rfl).1;have y4:=((HM1.1.at 3 rfl).1.2 4 _ rfl).1;obtain ⟨z0,zf0⟩:=(HM1.1.at 1 rfl).1.2 0 _ rfl;obtain ⟨z1,zf1⟩:=(HM1.1.at 1 rfl).1.2 1 _ rfl;obtain ⟨q0,qf0⟩:=(HM1.1.at 2 rfl).1.2 0 _ rfl;obtain ⟨q1,qf1⟩:=(HM1.1.at 2 rfl).1.2 1 _ rfl;have m0:=((HM1.1.at 0 rfl).1.2 0 _ rfl).1;have m3:=((HM1.1.at 0 rfl).1.2 3 _ rfl).1;have m4:=((HM1.1.at 0 rfl).1.2 4 _ rfl).1;have m6:=((HM1.1.at 0 rfl).1.2 6 _ rfl).1;have m7:=((HM1.1.at 0 rfl).1.2 7 _ rfl).1;have m8:=((HM1.1.at 0 rfl).1.2 8 _ rfl).1;dsimp only at y0 y3 y4)
  | (go_at_call 91;refine (HSP.1 _).mono ?_;rintro e w9 ⟨lv,rfl,hla,hb9⟩;have HLA:=zS hla;have hs49:=zS (And.intro hb9.size (HM1.1.at 0 rfl).1.1);clear hla;replace HM1:=zS (HM1.1.below hb9);replace HN1:=zS (HN1.1.below hb9);clear x0 x1 y0 y3 y4 z0 zf0 z1 zf1 q0 qf0 q1 qf1 m0 m3 m4 m6 m7 m8 hb9;have x0:=((HM1.1.at 4 rfl).1.2 0 _ rfl).1;have x1:=((HM1.1.at 4 rfl).1.2 1 _ rfl).1;have y0:=((HM1.1.at 3 rfl).1.2 0 _ rfl).1;have y3:=((HM1.1.at 3 rfl).1.2 3 _ rfl).1;have y4:=((HM1.1.at 3 rfl).1.2 4 _ rfl).1;obtain ⟨z0,zf0⟩:=(HM1.1.at 1 rfl).1.2 0 _ rfl;obtain ⟨z1,zf1⟩:=(HM1.1.at 1 rfl).1.2 1 _ rfl;obtain ⟨q0,qf0⟩:=(HM1.1.at 2 rfl).1.2 0 _ rfl;obtain ⟨q1,qf1⟩:=(HM1.1.at 2 rfl).1.2 1 _ rfl;have m0:=((HM1.1.at 0 rfl).1.2 0 _ rfl).1;have m3:=((HM1.1.at 0 rfl).1.2 3 _ rfl).1;have m4:=((HM1.1.at 0 rfl).1.2 4 _ rfl).1;have m6:=((HM1.1.at 0 rfl).1.2 6 _ rfl).1;have m7:=((HM1.1.at 0 rfl).1.2 7 _ rfl).1;have m8:=((HM1.1.at 0 rfl).1.2 8 _ rfl).1;dsimp only at y0 y3 y4))
 obtain ⟨la,lc,rfl,hlc,hlq⟩:=HLA.1;have HLQ:=zS hlq;clear hlq;obtain ⟨ln,hln⟩:∃ q,q=ls.length:=⟨_,rfl⟩;rw [<-hln] at HX3 hll hlc ⊢;have HLN:=zS hln;clear hln HLA hlc HRM2 HSP
 by_cases h40:40<pn+ln
 ·have HXX:Sh (R=(⟨nds rs,nx⟩,8)):=⟨by rw [HX3.1,if_pos h40]⟩
  have h40':(40:Int)<(pn:Int)+(ln:Int):=by omega
  clear h40;go_wp2_with fail;refine qad (fun W=>FinT w W (w.heap.size+1+1) (.slice (some ⟨g2,0,none⟩) n cap2) nx ⟨nds rs,nx⟩) (TAns.fin9 ((HM1.1.put 2 rfl 0 _ (by simp)).put 2 rfl 1 _ (by simp)) 2 rfl ((HN1.1.setBox _ 0 _ hsw.1).setBox _ 1 _ hsw.1) HR2.1.2 hsw0.1) ?_;rintro W8 ⟨r0,r1,hans,hbel⟩;refine bodyPost_ret (v:=.tuple #[.agg #[.slice (some ⟨g2,0,none⟩) n cap2,.int .i64 nx],.int .i64 8]) (by simp [results,Tryz.results51,go_sem,r0,r1]) rfl ⟨_,by rw [HXX.1],by rw [HXX.1];exact hans,hbel⟩
 have h40':¬ ((40:Int)<(pn:Int)+(ln:Int)):=by omega
 have HXX:Sh (R=(setN ⟨nds rs,nx⟩ k ⟨id,parent,name,false,schema,quota,len+num,pieces++newP gr ls,writer⟩,0)):=⟨by rw [HX3.1,if_neg h40]⟩;clear h40 HX3
 have HW0:Sh (WR w w9 W0 [(w1.heap.size+1,[.int .i64 id,.int .i64 parent,.string name,.bool false,.int .i64 schema,.int .i64 quota,.int .i64 len,.slice loc pn cp,.int .i64 writer]),(w1.heap.size,[.slice (some ⟨g2,0,none⟩) n cap2,.int .i64 nx]),(w.heap.size+1+1,[.slice none 0 0,.int .i64 0]),(w.heap.size+1,qbg ⟨kind,path,dest,num,who⟩),(w.heap.size,[.slice (some ⟨b,off,none⟩) n cap,.int .i64 nx])] w1.heap.size w4.heap.size w9.heap.size n cap2 g2 k rs2 ⟨id,parent,name,false,schema,quota,len,pieces,writer⟩ (pieces++newP gr (ls.take 0)) loc2 cp2 la ls):=⟨HM1.1,by
  have e:rs2.set k ⟨⟨id,parent,name,false,schema,quota,len,pieces,writer⟩,loc2,cp2⟩=rs2:=by
   obtain ⟨hk2,e2⟩:=List.getElem?_eq_some_iff.1 HD2.1;rw [<-e2,List.set_getElem_self]
  have e3:pieces++newP gr (ls.take 0)=pieces:=by simp [newP]
  rw [e3]
  show NB w9 W0.heap.size _ (rs2.set k ⟨⟨id,parent,name,false,schema,quota,len,pieces,writer⟩,loc2,cp2⟩)
  rw [e]
  exact HN1.1,fun q e=>by
   have h1:=HLT2.1 _ (List.mem_of_getElem? HD2.1) q e;have h2:=((HN1.1.rows _ (List.mem_of_getElem? HD2.1)).lt q.block (by rw [e];rfl)).1
   exact ⟨h2,.inl h1⟩,HLQ.1,zL⟩
 obtain ⟨j0,hjn,hy0,hy1,hy2⟩:=info_parts qgh;have hk2:k<rs2.length:=by rw [HR2.1.1];exact hkn
 go_wp2_with fail;clear x0 x1 y0 y3 y4 z0 zf0 z1 zf1 q0 qf0 q1 qf1 m0 m3 m4 m6 m7 m8;go_loopw [13] (fun i wr=>∃ (j:Nat) (lc9:Option Addr) (cp9:Nat),i = .int .i64 j/\j<=ln/\Sh (WR w wr W0 [(w1.heap.size+1,[.int .i64 id,.int .i64 parent,.string name,.bool false,.int .i64 schema,.int .i64 quota,.int .i64 len,.slice loc pn cp,.int .i64 writer]),(w1.heap.size,[.slice (some ⟨g2,0,none⟩) n cap2,.int .i64 nx]),(w.heap.size+1+1,[.slice none 0 0,.int .i64 0]),(w.heap.size+1,qbg ⟨kind,path,dest,num,who⟩),(w.heap.size,[.slice (some ⟨b,off,none⟩) n cap,.int .i64 nx])] w1.heap.size w4.heap.size w9.heap.size n cap2 g2 k rs2 ⟨id,parent,name,false,schema,quota,len,pieces,writer⟩ (pieces++newP gr (ls.take j)) lc9 cp9 la ls)) (fun i _=>ln - (intOf i).toNat)
 case atStart=>exact ⟨0,_,_,rfl,Nat.zero_le _,HW0⟩
 case round =>
  clear HW0 HM1 HN1;obtain ⟨j,lc9,cp9,rfl,hj,hW⟩:=hrel;have i0:(0:Int)<=(j:Int):=by omega
  by_cases hlt:j<ln
  ·have i1:(j:Int)<(ln:Int):=by omega
   have hjl:j<ls.length:=by have:=HLN.1;omega
   obtain ⟨gl,hla,hl1,hl2,hlw⟩:∃ g,la=some ⟨g,0,none⟩/\w4.heap.size<=g/\g<w9.heap.size/\WCells wr g (ics ls):=by
    rcases hW.1.lst with e | e
    ·rw [e] at hjl;simp at hjl
    ·exact e
   subst hla;have l0:wr.cell? ⟨gl,j,none⟩=some (.int .i64 ls[j]):=(hlw.2 j _ (by simp [ics,hjl])).1;have l1:=hlw.1;have HNT:=zS (qne gr ls j hjl);obtain ⟨lj,hlj⟩:∃ q,q=ls[j]:=⟨_,rfl⟩;rw [<-hlj] at l0 HNT;clear hlj hlw;have HL12:=zS (And.intro hl1 hl2);clear hl1 hl2;obtain ⟨ps,hps⟩:∃ q,q=pieces++newP gr (ls.take j):=⟨_,rfl⟩
   have hpsl:ps.length<=2000000:=by
    rw [hps,List.length_append,qff,List.length_take];have:=HPN.1;have:=HLN.1;omega
   rw [<-hps] at hW;have HPS:=zS hps;clear hps;obtain ⟨pl,hpl⟩:∃ q,q=ps.length:=⟨_,rfl⟩;have HPL:=zS hpl;have hrow:=hW.1.nb.rows ⟨{ (⟨id,parent,name,false,schema,quota,len,pieces,writer⟩:NM) with pieces:=ps },lc9,cp9⟩ (List.mem_of_getElem? (List.getElem?_set_self hk2));dsimp only at hrow;have z0:=((hW.1.mb.at 1 rfl).1.2 0 _ rfl).1;have z9:=(hW.1.mb.at 1 rfl).1.1;have s7:=hW.1.nb.cellK (k:=k) (by rw [List.length_set];exact HR2.1.1) (List.getElem?_set_self hk2) 7 _ rfl;dsimp only at s7;rw [<-hpl] at hrow s7 hpsl;clear hpl;obtain ⟨s7,sf7⟩:=s7;have l2:=(hW.1.nb.own.lt g2 rfl).2;have hC:W0.heap.size<=wr.heap.size:=by have:=HG2.1;omega
   have nb1:(Value.slice lc9 pl cp9).ownBlock ≠ some g2:=fun e=>by
    obtain ⟨c1,e1⟩:=qau hrow e;obtain ⟨c2,e2⟩:=qau hW.1.nb.own (show (Value.slice (some ⟨g2,0,none⟩) n cap2).ownBlock=some g2 from rfl);rw [e1] at e2;simp at e2
   have nb2:(Value.slice lc9 pl cp9).ownBlock ≠ some w1.heap.size:=fun e=>by
    cases hl:lc9 with
    | none=>rw [hl] at e;cases e
    | some q =>
     rw [hl] at e;simp [Value.ownBlock] at e;have:=hW.1.loc q hl;have:=hs49.1;have:=HL12.1;omega
   have HS:=zS (fun (w5:World) (o:Obj) (gg cap1:Nat)=>@WR.step w wr W0 w5 _ _ _ _ _ _ _ k gg cap1 pl rs2 _ ps lc9 cp9 _ ls o ⟨gr+j,lj⟩ hW.1 HR2.1.1 hk2 HPL.1 HG2.1.1 HG2.1.2 (by have:=hs49.1;omega) (by have:=HL12.1;omega) (fun p hp=>by
    have h1:=hsw.1;have h2:=hs49.1;simp only [List.mem_cons,List.not_mem_nil,or_false] at hp
    rcases hp with rfl | rfl | rfl | rfl | rfl <;> simp <;> omega) hsw0.1)
   have m1:¬ (gl=g2):=by have:=HL12.1;have:=HG2.1;have:=hs49.1;omega
   have m2:¬ (w1.heap.size=g2):=by have:=HG2.1;omega
   have hwr:IntKind.i64.wrap (gr+(j:Int))=gr+(j:Int):=IntWalk.i64_in _ ⟨by omega,by omega⟩;go_upto_region 22 with fail;go_region_law ((refine step_append_lies _ (by rfl) _ _ _ (by rfl) W0.heap.size 143 j0 _ 2 16 Tryz.underlying88 hjn hy0 hy1 hy2 rfl (by omega) _ _ _ (by rfl) ((hrow.alloc _).drew) ⟨wr.heap.size,0,none⟩ 1 1 [.int .i64 (gr+j),.int .i64 lj] (by rfl) (by rfl) (World.news_of_block (cs:=#[.int .i64 (gr+j),.int .i64 lj]) (t:=143) (fr:=(0,0)) (heap_alloc_new wr _)) (by simp [Value.oneCell']) (by omega) (by unfold maxLen;omega) (by omega) (by simp;omega) (wr.heap.size+1) (by simp) ?_;intro gg cap1 w5 hown1 hgrow hat hlt';have vc1:=(hgrow.cell_far ⟨g2,k*9+7,none⟩ (by simp;omega) (Ne.symm nb1)).trans ((hW.1.nb.below ((zB.alloc zL _).drew)).cellK (k:=k) (by rw [List.length_set];exact HR2.1.1) (List.getElem?_set_self hk2) 7 _ rfl).1;have vf1:=(hgrow.frozen_far ⟨g2,k*9+7,none⟩ (by simp;omega) (Ne.symm nb1)).trans ((hW.1.nb.below ((zB.alloc zL _).drew)).cellK (k:=k) (by rw [List.length_set];exact HR2.1.1) (List.getElem?_set_self hk2) 7 _ rfl).2;have vz1:=(hgrow.cell_far ⟨w1.heap.size,0,none⟩ (by simp;omega) (Ne.symm nb2)).trans (((hW.1.mb.below ((zB.alloc zL _).drew)).at 1 rfl).1.2 0 _ rfl).1))
   all_goals go_wp2_with fail
   all_goals
    refine ⟨⟨j+1,some ⟨gg,0,none⟩,cap1,by go_num,by omega,⟨?_⟩⟩,by simp [intOf];omega⟩;have hh:=HS.1 w5 _ gg cap1 hgrow hown1 hat;rw [HNT.1,<-List.append_assoc,<-HPS.1];exact hh
  ·have i1:¬ ((j:Int)<(ln:Int)):=by omega
   have hall:ls.take j=ls:=List.take_of_length_le (by have:=HLN.1;omega);rw [hall] at hW;clear hall;have y3:=((hW.1.mb.at 3 rfl).1.2 3 _ rfl).1;have m6:=((hW.1.mb.at 0 rfl).1.2 6 _ rfl).1;obtain ⟨z0,zf0,z1,zf1⟩:=bwc2 ((hW.1.mb.at 1 rfl).1);obtain ⟨q0,qf0,q1,qf1⟩:=bwc2 ((hW.1.mb.at 2 rfl).1);dsimp only at y3;obtain ⟨s6,sf6⟩:=hW.1.nb.cellK (k:=k) (by rw [List.length_set];exact HR2.1.1) (List.getElem?_set_self hk2) 6 _ rfl;dsimp only at s6;have m2:¬ (w1.heap.size=g2):=by have:=HG2.1;omega
   have m3:¬ (g2=w1.heap.size):=by have:=HG2.1;omega
   have HGS2:Sh (∀ (W:World) (i:Nat) (x:Value),MB w W [(w1.heap.size+1,[.int .i64 id,.int .i64 parent,.string name,.bool false,.int .i64 schema,.int .i64 quota,.int .i64 len,.slice loc pn cp,.int .i64 writer]),(w1.heap.size,[.slice (some ⟨g2,0,none⟩) n cap2,.int .i64 nx]),(w.heap.size+1+1,[.slice none 0 0,.int .i64 0]),(w.heap.size+1,qbg ⟨kind,path,dest,num,who⟩),(w.heap.size,[.slice (some ⟨b,off,none⟩) n cap,.int .i64 nx])]->MB w (W.setCell ⟨g2,i,none⟩ x) [(w1.heap.size+1,[.int .i64 id,.int .i64 parent,.string name,.bool false,.int .i64 schema,.int .i64 quota,.int .i64 len,.slice loc pn cp,.int .i64 writer]),(w1.heap.size,[.slice (some ⟨g2,0,none⟩) n cap2,.int .i64 nx]),(w.heap.size+1+1,[.slice none 0 0,.int .i64 0]),(w.heap.size+1,qbg ⟨kind,path,dest,num,who⟩),(w.heap.size,[.slice (some ⟨b,off,none⟩) n cap,.int .i64 nx])]):=⟨fun W i x M=>M.far (qam W g2 i x) (fun p hp e=>by
    have h1:=HG2.1;have h2:=hsw.1;simp only [List.mem_cons,List.not_mem_nil,or_false] at hp
    rcases hp with rfl | rfl | rfl | rfl | rfl <;> simp at e <;> omega) (fun q hq=>by cases hq;have:=HG2.1;have:=hsw.1;omega)⟩
   go_wp2_with fail;refine qad (fun W=>FinT w W (w.heap.size+1+1) (.slice (some ⟨g2,0,none⟩) n cap2) nx (setN ⟨nds rs,nx⟩ k ⟨id,parent,name,false,schema,quota,len+num,pieces++newP gr ls,writer⟩)) (TAns.fin9 (((HGS2.1 _ (k*9+6) (.int .i64 (len+num)) hW.1.mb).put 2 rfl 0 _ (by simp)).put 2 rfl 1 _ (by simp)) 2 rfl (((hW.1.nb.putK (by rw [List.length_set];exact HR2.1.1) (List.getElem?_set_self hk2) 6 (by omega) (.int .i64 (len+num)) ⟨⟨id,parent,name,false,schema,quota,len+num,pieces++newP gr ls,writer⟩,lc9,cp9⟩ rfl rfl rfl rfl).setBox _ 0 _ hsw.1).setBox _ 1 _ hsw.1) (by rw [List.set_set,qfe,HR2.1.2]) hsw0.1) ?_;rintro W8 ⟨r0,r1,hans,hbel⟩;refine bodyPost_ret (v:=.tuple #[.agg #[.slice (some ⟨g2,0,none⟩) n cap2,.int .i64 nx],.int .i64 0]) (by simp [results,Tryz.results51,go_sem,r0,r1]) rfl ⟨_,by rw [HXX.1],by rw [HXX.1];exact hans,hbel⟩
end
end Go.Proofs.YtackbhpgdohimaaGreatDoor
