/- Texts of ours, laid one behind the other: ApB. -/
import Derived.Test.YtackbhpgdohimaaGreatDoorQk8
import Derived.Test.YtackbhpgdohimaaGreatDoorQk4
/- ApB: . -/
namespace Go.Proofs.YtackbhpgdohimaaGreatDoor
set_option maxRecDepth 100000
set_option maxHeartbeats 16000000
open Go.RowKit
attribute [local go_sem ↓] Go.wp_at_zero Go.wp_at_succ
section
open BigFrame
variable {nx:Int} {ns:List NM} {rs:List NR} {B cap hi lo n:Nat} {a:Option Addr} {T:TM} {v:Value} {W w:World}
theorem MB.three (w:World) (c1 c2 c3:Array Value) (t1 t2 t3:TypeId):MB w (((w.alloc (.cells c1 t1)).alloc (.cells c2 t2)).alloc (.cells c3 t3)) [(w.heap.size+1+1,c3.toList),(w.heap.size+1,c2.toList),(w.heap.size,c1.toList)]:=by
 have h:=(((MB.nil w).new c1 t1).new c2 t2).new c3 t3;have e1:(w.alloc (.cells c1 t1)).heap.size=w.heap.size+1:=by simp
 have e2:((w.alloc (.cells c1 t1)).alloc (.cells c2 t2)).heap.size=w.heap.size+1+1:=by simp
 rw [e1,e2] at h;exact h
theorem HM_three (w:World) (sv:Value) (nx:Int) (x:NM) (t1 t2 t3:TypeId):MB w (((w.alloc (.cells #[sv,.int .i64 nx] t1)).alloc (.cells #[.int .i64 x.id,.int .i64 x.parent,.string x.name,.bool x.dir,.int .i64 x.schema,.int .i64 x.quota,.int .i64 x.len,.slice none 0 0,.int .i64 x.writer] t2)).alloc (.cells #[.slice none 0 0,.int .i64 0] t3)) [(w.heap.size+1+1,[.slice none 0 0,.int .i64 0]),(w.heap.size+1,[.int .i64 x.id,.int .i64 x.parent,.string x.name,.bool x.dir,.int .i64 x.schema,.int .i64 x.quota,.int .i64 x.len,.slice none 0 0,.int .i64 x.writer]),(w.heap.size,[sv,.int .i64 nx])]:=MB.three w _ _ _ _ _ _
theorem qnc (hr:TR w a rs lo hi) (k:Nat) (hk:k<rs.length):∃ b off,a=some ⟨b,off,none⟩/\b<w.heap.size/\NAt w b (off+k*9) rs[k]:=by
 obtain ⟨b,off,e,hb,hc⟩:=TR.nat hr (by omega);exact ⟨b,off,e,hb,hc k hk⟩
theorem NB.blk (h:NB w B (.slice a n cap) rs) (hn:rs.length=n) (h0:n ≠ 0):∃ g,a=some ⟨g,0,none⟩/\B<=g/\g<w.heap.size/\∀ k (hk:k<rs.length) f v,(qaj rs[k])[f]?=some v->w.cell? ⟨g,k*9+f,none⟩=some v/\w.frozen? ⟨g,k*9+f,none⟩=false:=by
 subst hn;obtain ⟨g,cap',cur,e,hB,hl,hc⟩:=qfg h.own h0;have ea:a=some ⟨g,0,none⟩:=by simp at e;exact e.1
 subst ea;refine ⟨g,rfl,hB,hl,fun k hk f v hv=>?_⟩;have hw:=qan h.own;have hf:f<9:=by have:=(List.getElem?_eq_some_iff.1 hv).1;rw [qai] at this;exact this
 exact hw.2 _ _ ((flat_get qai rs k hk f hf).trans hv)
def CpN (ns:List NM) (n:Nat) (nx:Int) (w:World) (e:Ending) (w':World):Prop:=∃ (a:Option Addr) (cap:Nat) (rs:List NR),e = .returned (.agg #[.slice a n cap,.int .i64 nx])/\rs.length=n/\nds rs=ns/\NB w' w.heap.size (.slice a n cap) rs/\Below w.heap.size w w'
theorem qfp (h:TSee w v T lo hi) (hf:NFit T) (hn:n=T.nodes.length):Calls Tryz.prog 40 #[v] w fun e w'=>CpN T.nodes n T.next w e w':=
 (qni h hf).mono (by
  rintro e w' ⟨a,cap,rs,rfl,hr,hnb,hb⟩;have hl:rs.length=n:=by rw [hn,<-hr,qaf]
  exact ⟨a,cap,rs,by rw [hl],hl,hr,by rw [<-hl];exact hnb,hb⟩)
theorem NB.ans (h:NB W B (.slice a n cap) rs) (hr:nds rs=ns) (hB:w.heap.size<=B):TAns W (.agg #[.slice a n cap,.int .i64 nx]) ⟨ns,nx⟩ w.heap.size W.heap.size:=by
 subst hr;exact (h.low hB).fin
structure FinT (w W:World) (rb:Nat) (v:Value) (nx:Int) (T:TM):Prop where
 r0:W.cell? ⟨rb,0,none⟩=some v
 r1:W.cell? ⟨rb,1,none⟩=some (.int .i64 nx)
 ans:TAns W (.agg #[v,.int .i64 nx]) T w.heap.size W.heap.size
 bel:Below w.heap.size w W
theorem TAns.fin9 {L:List (Nat × List Value)} {rb B n cap:Nat} (M:MB w W L) (i:Nat) (hi:L[i]?=some (rb,[.slice a n cap,.int .i64 nx])) (h:NB W B (.slice a n cap) rs) (hr:nds rs=ns) (hB:w.heap.size<=B):FinT w W rb (.slice a n cap) nx ⟨ns,nx⟩:=
 ⟨((M.at i hi).1.2 0 _ rfl).1,((M.at i hi).1.2 1 _ rfl).1,h.ans hr hB,M.bel⟩
theorem qfe (rs:List NR) (k:Nat) (r:NR):nds (rs.set k r)=(nds rs).set k r.nd:=by simp [nds,List.map_set]
theorem specSet (e:EM) (k:Nat) (h:TSee w v T lo hi) (hf:NFit T) (hk:k<T.nodes.length):Calls Tryz.prog 49 #[v,ev e,.int .i64 k] w fun r w'=>qja (setX T e k) w r w':=by
 have HT:=zS h;have HU:=zS (fun (id:Int) (W:World) (hb:Below w.heap.size w W)=>qig id (h.below hb) hf);have HCP:=zS (fun (W:World) (n:Nat) (hn:n=T.nodes.length) (hb:Below w.heap.size w W)=>qfp (h.below hb) hf hn);have hl:T.nodes.length<=1048576:=by unfold NFit at hf;omega
 obtain ⟨a,cap,rs,rfl,hr,hm⟩:=h;obtain ⟨nodes,nx⟩:=T;dsimp only at *;subst hr;have hkr:k<rs.length:=by rw [qaf] at hk;exact hk
 obtain ⟨b,off,rfl,lb,hnk⟩:=qnc hm k hkr;have HND:Sh (ndAt ⟨nds rs,nx⟩ k=rs[k].nd):=⟨by simp [ndAt,nds,List.getD,hkr]⟩;obtain ⟨r,hre⟩:∃ r,r=rs[k]:=⟨_,rfl⟩;rw [<-hre] at HND hnk;have HRE:Sh (rs[k]?=some r):=⟨by rw [hre];simp [hkr]⟩;obtain ⟨n,hn⟩:∃ n,n=rs.length:=⟨_,rfl⟩;have hkn:k<n:=by omega
 have hn':n<=1048576:=by rw [qaf] at hl;omega
 rw [<-hn] at HT HU HCP ⊢;have HN:=zS hn;have HNK:=zS hnk;clear hk hre hn hm hf hl hnk hkr;have HX:Sh (setX ⟨nds rs,nx⟩ e k=if r.nd.dir=false then (⟨nds rs,nx⟩,3) else if e.kind=5 then (setN ⟨nds rs,nx⟩ k { r.nd with schema:=e.num },0) else if 0<e.num/\e.num<usedX ⟨nds rs,nx⟩ r.nd.id then (⟨nds rs,nx⟩,5) else (setN ⟨nds rs,nx⟩ k { r.nd with quota:=e.num },0)):=⟨by unfold setX;rw [HND.1]⟩;generalize setX ⟨nds rs,nx⟩ e k=R at HX ⊢;obtain ⟨kind,path,dest,num,who⟩:=e;obtain ⟨⟨id,parent,name,dir,schema,quota,len,pieces,writer⟩,loc,cp⟩:=r;dsimp only at *;have k0:(0:Int)<=(k:Int):=by omega
 have k1:(k:Int)<(n:Int):=by omega
 go_enter Tryz.func49,Tryz.ntmps49;go_upto_region 1 with fail;refine qaa (fun W=>MB w W [(w.heap.size+1+1,[.slice none 0 0,.int .i64 0]),(w.heap.size+1,qbg ⟨kind,path,dest,num,who⟩),(w.heap.size,[.slice (some ⟨b,off,none⟩) n cap,.int .i64 nx])]) (MB.three w _ _ _ _ _ _) ?_;intro W0 hM;have HM:=zS hM;clear hM;obtain ⟨x0,x1⟩:=bwb2 ((HM.1.at 2 rfl).1);have hsw:=zS (HM.1.at 0 rfl).1.1;have hsw0:=zS HM.1.bel.size;have HC:=zS (HCP.1 W0 n (by rw [qaf];exact HN.1) HM.1.bel);go_upto_region 2 with (go_at_call 40;refine HC.1.mono ?_;rintro e w1 ⟨a2,cap2,rs2,rfl,hl2,hr2,hnb,hb1⟩;have HR2:=zS (And.intro hl2 hr2);have HNB:=zS hnb;replace HM:=zS (HM.1.below hb1);have HB1:=zS hb1;clear hl2 hr2 hnb hb1 x0 x1);obtain ⟨g2,rfl,hg2,hg2',hcell⟩:=HNB.1.blk HR2.1.1 (by omega);have HG2:=zS (And.intro hg2 hg2');clear hcell hg2 hg2';refine qaa (fun W=>MB w W [(w1.heap.size,[.slice (some ⟨g2,0,none⟩) n cap2,.int .i64 nx]),(w.heap.size+1+1,[.slice none 0 0,.int .i64 0]),(w.heap.size+1,qbg ⟨kind,path,dest,num,who⟩),(w.heap.size,[.slice (some ⟨b,off,none⟩) n cap,.int .i64 nx])]/\NB W W0.heap.size (.slice (some ⟨g2,0,none⟩) n cap2) rs2) ⟨HM.1.new _ _,HNB.1.below (zB.alloc zL _)⟩ ?_;rintro W1 ⟨hM1,hN1⟩;have HM1:=zS hM1;have HN1:=zS hN1;clear hM1 hN1 HM HNB HC;obtain ⟨x0,x1⟩:=bwb2 ((HM1.1.at 3 rfl).1);have y0:=((HM1.1.at 2 rfl).1.2 0 _ rfl).1;have y3:=((HM1.1.at 2 rfl).1.2 3 _ rfl).1;have z0:=(HM1.1.at 0 rfl).1.2 0 _ rfl;have z1:=(HM1.1.at 0 rfl).1.2 1 _ rfl;obtain ⟨z0,zf0⟩:=z0;obtain ⟨z1,zf1⟩:=z1;have q0:=(HM1.1.at 1 rfl).1.2 0 _ rfl;have q1:=(HM1.1.at 1 rfl).1.2 1 _ rfl;obtain ⟨q0,qf0⟩:=q0;obtain ⟨q1,qf1⟩:=q1;obtain ⟨c0,-,-,c3,-⟩:=HNK.1.below HM1.1.bel lb;dsimp only at y0 y3 c0 c3
 have HFIN:Sh (MB w ((W1.setCell ⟨w.heap.size+1+1,0,none⟩ (.slice (some ⟨g2,0,none⟩) n cap2)).setCell ⟨w.heap.size+1+1,1,none⟩ (.int .i64 nx)) [(w1.heap.size,[.slice (some ⟨g2,0,none⟩) n cap2,.int .i64 nx]),(w.heap.size+1+1,[.slice (some ⟨g2,0,none⟩) n cap2,.int .i64 nx]),(w.heap.size+1,qbg ⟨kind,path,dest,num,who⟩),(w.heap.size,[.slice (some ⟨b,off,none⟩) n cap,.int .i64 nx])]):=⟨(HM1.1.put 1 rfl 0 _ (by simp)).put 1 rfl 1 _ (by simp)⟩
 -- TAIL
 obtain ⟨loc2,cp2,hd2⟩:=qpk HR2.1.2 HRE.1;have HD2:=zS hd2;dsimp only at HD2
 have HGB:Sh (∀ (W:World) (i:Nat) (x:Value),MB w W [(w1.heap.size,[.slice (some ⟨g2,0,none⟩) n cap2,.int .i64 nx]),(w.heap.size+1+1,[.slice none 0 0,.int .i64 0]),(w.heap.size+1,qbg ⟨kind,path,dest,num,who⟩),(w.heap.size,[.slice (some ⟨b,off,none⟩) n cap,.int .i64 nx])]->MB w (W.setCell ⟨g2,i,none⟩ x) [(w1.heap.size,[.slice (some ⟨g2,0,none⟩) n cap2,.int .i64 nx]),(w.heap.size+1+1,[.slice none 0 0,.int .i64 0]),(w.heap.size+1,qbg ⟨kind,path,dest,num,who⟩),(w.heap.size,[.slice (some ⟨b,off,none⟩) n cap,.int .i64 nx])]):=⟨fun W i x M=>M.far (qam W g2 i x) (fun p hp=>by
  have h1:=HG2.1;have h2:=hsw.1;simp only [List.mem_cons,List.not_mem_nil,or_false] at hp
  rcases hp with rfl | rfl | rfl | rfl <;> simp <;> omega) (fun q hq=>by cases hq;have:=HG2.1;have:=hsw.1;omega)⟩
 clear hd2 HFIN
 cases dir with
 | false =>
  have HXX:Sh (R=(⟨nds rs,nx⟩,3)):=⟨by rw [HX.1];rfl⟩;go_wp2_with fail;refine qad (fun W=>FinT w W (w.heap.size+1+1) (.slice (some ⟨g2,0,none⟩) n cap2) nx ⟨nds rs,nx⟩) (TAns.fin9 ((HM1.1.put 1 rfl 0 _ (by simp)).put 1 rfl 1 _ (by simp)) 1 rfl ((HN1.1.setBox _ 0 _ hsw.1).setBox _ 1 _ hsw.1) HR2.1.2 hsw0.1) ?_;rintro W8 ⟨r0,r1,hans,hbel⟩;refine bodyPost_ret (v:=.tuple #[.agg #[.slice (some ⟨g2,0,none⟩) n cap2,.int .i64 nx],.int .i64 3]) (by simp [results,Tryz.results49,go_sem,r0,r1]) rfl ⟨_,by rw [HXX.1],by rw [HXX.1];exact hans,hbel⟩
 | true =>
  by_cases h5:kind=5
  ·have b5:(kind==5)=true:=by simp [h5]
   have HXX:Sh (R=(setN ⟨nds rs,nx⟩ k ⟨id,parent,name,true,num,quota,len,pieces,writer⟩,0)):=⟨by rw [HX.1,if_neg (by simp),if_pos h5]⟩;clear h5;obtain ⟨m4,mf4⟩:=HN1.1.cellK HR2.1.1 HD2.1 4 _ rfl;dsimp only at m4;go_wp2_with fail;refine qad (fun W=>FinT w W (w.heap.size+1+1) (.slice (some ⟨g2,0,none⟩) n cap2) nx (setN ⟨nds rs,nx⟩ k ⟨id,parent,name,true,num,quota,len,pieces,writer⟩)) (TAns.fin9 (((HGB.1 W1 (k*9+4) (.int .i64 num) HM1.1).put 1 rfl 0 _ (by simp)).put 1 rfl 1 _ (by simp)) 1 rfl (((HN1.1.putK HR2.1.1 HD2.1 4 (by omega) (.int .i64 num) ⟨⟨id,parent,name,true,num,quota,len,pieces,writer⟩,loc2,cp2⟩ rfl rfl rfl rfl).setBox _ 0 _ hsw.1).setBox _ 1 _ hsw.1) (by rw [qfe,HR2.1.2]) hsw0.1) ?_;rintro W8 ⟨r0,r1,hans,hbel⟩;refine bodyPost_ret (v:=.tuple #[.agg #[.slice (some ⟨g2,0,none⟩) n cap2,.int .i64 nx],.int .i64 0]) (by simp [results,Tryz.results49,go_sem,r0,r1]) rfl ⟨_,by rw [HXX.1],by rw [HXX.1];exact hans,hbel⟩
  ·have b5:(kind==5)=false:=by simp [h5]
   have HUU:=zS (fun (x:World) (hx:Below w.heap.size w x)=>HU.1 id x hx);obtain ⟨us,hus⟩:∃ us,us=usedX ⟨nds rs,nx⟩ id:=⟨_,rfl⟩;rw [<-hus] at HUU HX;go_upto_region 7 with fail
   by_cases hnum:0<num
   ·have hd:decide (0<num)=true:=by simpa using hnum
    have HLE:Sh (∀ x,Later W1.drew x->x.cell? ⟨w.heap.size+1,3,none⟩=some (.int .i64 num)/\x.cell? ⟨w.heap.size,0,none⟩=some (.slice (some ⟨b,off,none⟩) n cap)/\x.cell? ⟨w.heap.size,1,none⟩=some (.int .i64 nx)/\x.cell? ⟨b,off+k*9,none⟩=some (.int .i64 id)):=⟨fun x hx=>by
     have hb:Below W1.heap.size W1 x:=Below.trans zD hx;have M:=HM1.1.below hb;obtain ⟨c0,-⟩:=HNK.1.below M.bel lb
     exact ⟨((M.at 2 rfl).1.2 3 _ rfl).1,((M.at 3 rfl).1.2 0 _ rfl).1,((M.at 3 rfl).1.2 1 _ rfl).1,c0⟩⟩
    have HBX:Sh (∀ x,Later W1.drew x->Below w.heap.size w x):=⟨fun x hx=>HM1.1.bel.trans ((Below.trans zD hx:Below W1.heap.size W1 x).mono HM1.1.bel.size)⟩;refine qar (by kernel_rfl) ?_;refine wpL_v 0 rfl (fun x hx=>by obtain ⟨d0,d1,d2,d3⟩:=HLE.1 x hx;go_simp;try with_reducible rfl) ?_
    try simp only [Act.put,qA,qB,qC]
    refine wpL_v 1 rfl (fun x hx=>by obtain ⟨d0,d1,d2,d3⟩:=HLE.1 x hx;go_simp;try with_reducible rfl) ?_
    try simp only [Act.put,qA,qB,qC]
    refine wpL_v 2 rfl (fun x hx=>by obtain ⟨d0,d1,d2,d3⟩:=HLE.1 x hx;go_simp;try with_reducible rfl) ?_
    try simp only [Act.put,qA,qB,qC]
    refine wpL_v 3 rfl (fun x hx=>by obtain ⟨d0,d1,d2,d3⟩:=HLE.1 x hx;go_simp;try with_reducible rfl) ?_
    try simp only [Act.put,qA,qB,qC]
    refine wpL_v 4 rfl (fun x hx=>by obtain ⟨d0,d1,d2,d3⟩:=HLE.1 x hx;go_simp;try with_reducible rfl) ?_
    try simp only [Act.put,qA,qB,qC]
    refine wpL_v 5 rfl (fun x hx=>by obtain ⟨d0,d1,d2,d3⟩:=HLE.1 x hx;go_simp;try with_reducible rfl) ?_
    try simp only [Act.put,qA,qB,qC]
    refine wpL_v 6 rfl (fun x hx=>by obtain ⟨d0,d1,d2,d3⟩:=HLE.1 x hx;go_simp;try with_reducible rfl) ?_
    try simp only [Act.put,qA,qB,qC]
    refine wpL_v 7 rfl (fun x hx=>by obtain ⟨d0,d1,d2,d3⟩:=HLE.1 x hx;go_simp;try with_reducible rfl) ?_
    try simp only [Act.put,qA,qB,qC]
    refine wpL_v 8 rfl (fun x hx=>by obtain ⟨d0,d1,d2,d3⟩:=HLE.1 x hx;go_simp;try with_reducible rfl) ?_
    try simp only [Act.put,qA,qB,qC]
    refine wpL_v 9 rfl (fun x hx=>by obtain ⟨d0,d1,d2,d3⟩:=HLE.1 x hx;go_simp;try with_reducible rfl) ?_
    try simp only [Act.put,qA,qB,qC]
    refine wpL_v 10 rfl (fun x hx=>by obtain ⟨d0,d1,d2,d3⟩:=HLE.1 x hx;go_simp;try with_reducible rfl) ?_
    try simp only [Act.put,qA,qB,qC]
    refine wpL_v 11 rfl (fun x hx=>by obtain ⟨d0,d1,d2,d3⟩:=HLE.1 x hx;go_simp;try with_reducible rfl) ?_
    try simp only [Act.put,qA,qB,qC]
    refine wpL_v 12 rfl (fun x hx=>by obtain ⟨d0,d1,d2,d3⟩:=HLE.1 x hx;go_simp;try with_reducible rfl) ?_
    try simp only [Act.put,qA,qB,qC]
    refine qcq (i:=13) (v:=.int .i64 us) (f:=89) (args:=#[.agg #[.slice (some ⟨b,off,none⟩) n cap,.int .i64 nx],.int .i64 id]) rfl (by kernel_rfl) (by kernel_rfl) (by kernel_rfl) (fun _ _ _ h=>h) (by rfl) ?hya13 (fun x hx=>HUU.1 x (HBX.1 x hx)) ?resta13
    case hya13=>(intro x hx;obtain ⟨d0,d1,d2,d3⟩:=HLE.1 x hx;go_simp;try with_reducible rfl)
    try simp only [Act.put,qA,qB,qC]
    refine wpL_v 14 rfl (fun x hx=>by obtain ⟨d0,d1,d2,d3⟩:=HLE.1 x hx;go_simp;try with_reducible rfl) ?_
    try simp only [Act.put,qA,qB,qC]
    refine wpL_v 15 rfl (fun x hx=>by obtain ⟨d0,d1,d2,d3⟩:=HLE.1 x hx;go_simp;try with_reducible rfl) ?_
    try simp only [Act.put,qA,qB,qC]
    refine qdd (by kernel_rfl) ?_ _;intro y hy;have HB9:=zS (Below.trans zD hy:Below W1.heap.size W1 y);replace HM1:=zS (HM1.1.below HB9.1);replace HN1:=zS (HN1.1.below HB9.1);clear x0 x1 y0 y3 z0 zf0 z1 zf1 q0 qf0 q1 qf1 c0 c3;have y3:=((HM1.1.at 2 rfl).1.2 3 _ rfl).1;obtain ⟨z0,zf0,z1,zf1⟩:=bwc2 ((HM1.1.at 0 rfl).1);obtain ⟨q0,qf0,q1,qf1⟩:=bwc2 ((HM1.1.at 1 rfl).1);dsimp only at y3
    by_cases hlt:num<us
    ·have HXX:Sh (R=(⟨nds rs,nx⟩,5)):=⟨by rw [HX.1,if_neg (by simp),if_neg h5,if_pos ⟨hnum,hlt⟩]⟩
     have hl:decide (num<us)=true:=by simpa using hlt
     go_wp2_with fail;refine qad (fun W=>FinT w W (w.heap.size+1+1) (.slice (some ⟨g2,0,none⟩) n cap2) nx ⟨nds rs,nx⟩) (TAns.fin9 ((HM1.1.put 1 rfl 0 _ (by simp)).put 1 rfl 1 _ (by simp)) 1 rfl ((HN1.1.setBox _ 0 _ hsw.1).setBox _ 1 _ hsw.1) HR2.1.2 hsw0.1) ?_;rintro W8 ⟨r0,r1,hans,hbel⟩;refine bodyPost_ret (v:=.tuple #[.agg #[.slice (some ⟨g2,0,none⟩) n cap2,.int .i64 nx],.int .i64 5]) (by simp [results,Tryz.results49,go_sem,r0,r1]) rfl ⟨_,by rw [HXX.1],by rw [HXX.1];exact hans,hbel⟩
    ·have HXX:Sh (R=(setN ⟨nds rs,nx⟩ k ⟨id,parent,name,true,schema,num,len,pieces,writer⟩,0)):=⟨by rw [HX.1,if_neg (by simp),if_neg h5,if_neg (fun h=>hlt h.2)]⟩
     have hl:decide (num<us)=false:=by simpa using hlt
     obtain ⟨m5,mf5⟩:=HN1.1.cellK HR2.1.1 HD2.1 5 _ rfl;dsimp only at m5;go_wp2_with fail;refine qad (fun W=>FinT w W (w.heap.size+1+1) (.slice (some ⟨g2,0,none⟩) n cap2) nx (setN ⟨nds rs,nx⟩ k ⟨id,parent,name,true,schema,num,len,pieces,writer⟩)) (TAns.fin9 (((HGB.1 _ (k*9+5) (.int .i64 num) HM1.1).put 1 rfl 0 _ (by simp)).put 1 rfl 1 _ (by simp)) 1 rfl (((HN1.1.putK HR2.1.1 HD2.1 5 (by omega) (.int .i64 num) ⟨⟨id,parent,name,true,schema,num,len,pieces,writer⟩,loc2,cp2⟩ rfl rfl rfl rfl).setBox _ 0 _ hsw.1).setBox _ 1 _ hsw.1) (by rw [qfe,HR2.1.2]) hsw0.1) ?_;rintro W8 ⟨r0,r1,hans,hbel⟩;refine bodyPost_ret (v:=.tuple #[.agg #[.slice (some ⟨g2,0,none⟩) n cap2,.int .i64 nx],.int .i64 0]) (by simp [results,Tryz.results49,go_sem,r0,r1]) rfl ⟨_,by rw [HXX.1],by rw [HXX.1];exact hans,hbel⟩
   ·have hd:decide (0<num)=false:=by simpa using hnum
    have HXX:Sh (R=(setN ⟨nds rs,nx⟩ k ⟨id,parent,name,true,schema,num,len,pieces,writer⟩,0)):=⟨by rw [HX.1,if_neg (by simp),if_neg h5,if_neg (fun h=>hnum h.1)]⟩;have HLE:Sh (∀ x,Later W1.drew x->x.cell? ⟨w.heap.size+1,3,none⟩=some (.int .i64 num)):=⟨fun x hx=>(((HM1.1.below (Below.trans zD hx)).at 2 rfl).1.2 3 _ rfl).1⟩;refine qar (by kernel_rfl) ?_;refine wpL_v 0 rfl (fun x hx=>by have d0:=HLE.1 x hx;go_simp;try with_reducible rfl) ?_
    try simp only [Act.put,qA,qB,qC]
    refine wpL_v 1 rfl (fun x hx=>by have d0:=HLE.1 x hx;go_simp;try with_reducible rfl) ?_
    try simp only [Act.put,qA,qB,qC]
    refine wpL_v 2 rfl (fun x hx=>by have d0:=HLE.1 x hx;go_simp;try with_reducible rfl) ?_
    try simp only [Act.put,qA,qB,qC]
    refine wpL_v 3 rfl (fun x hx=>by have d0:=HLE.1 x hx;go_simp;try with_reducible rfl) ?_
    try simp only [Act.put,qA,qB,qC]
    refine wpL_s 4 rfl ?_
    try simp only [Act.put,qA,qB,qC]
    refine wpL_s 5 rfl ?_
    try simp only [Act.put,qA,qB,qC]
    refine wpL_s 6 rfl ?_
    try simp only [Act.put,qA,qB,qC]
    refine wpL_s 7 rfl ?_
    try simp only [Act.put,qA,qB,qC]
    refine wpL_s 8 rfl ?_
    try simp only [Act.put,qA,qB,qC]
    refine wpL_s 9 rfl ?_
    try simp only [Act.put,qA,qB,qC]
    refine wpL_s 10 rfl ?_
    try simp only [Act.put,qA,qB,qC]
    refine wpL_s 11 rfl ?_
    try simp only [Act.put,qA,qB,qC]
    refine wpL_s 12 rfl ?_
    try simp only [Act.put,qA,qB,qC]
    refine wpL_s 13 rfl ?_
    try simp only [Act.put,qA,qB,qC]
    refine wpL_s 14 rfl ?_
    try simp only [Act.put,qA,qB,qC]
    refine wpL_v 15 rfl (fun x hx=>by have d0:=HLE.1 x hx;go_simp;try with_reducible rfl) ?_
    try simp only [Act.put,qA,qB,qC]
    refine qdd (by kernel_rfl) ?_ _;intro y hy;have HB9:=zS (Below.trans zD hy:Below W1.heap.size W1 y);replace HM1:=zS (HM1.1.below HB9.1);replace HN1:=zS (HN1.1.below HB9.1);clear x0 x1 y0 y3 z0 zf0 z1 zf1 q0 qf0 q1 qf1 c0 c3;have y3:=((HM1.1.at 2 rfl).1.2 3 _ rfl).1;obtain ⟨z0,zf0,z1,zf1⟩:=bwc2 ((HM1.1.at 0 rfl).1);obtain ⟨q0,qf0,q1,qf1⟩:=bwc2 ((HM1.1.at 1 rfl).1);dsimp only at y3;obtain ⟨m5,mf5⟩:=HN1.1.cellK HR2.1.1 HD2.1 5 _ rfl;dsimp only at m5;go_wp2_with fail;refine qad (fun W=>FinT w W (w.heap.size+1+1) (.slice (some ⟨g2,0,none⟩) n cap2) nx (setN ⟨nds rs,nx⟩ k ⟨id,parent,name,true,schema,num,len,pieces,writer⟩)) (TAns.fin9 (((HGB.1 _ (k*9+5) (.int .i64 num) HM1.1).put 1 rfl 0 _ (by simp)).put 1 rfl 1 _ (by simp)) 1 rfl (((HN1.1.putK HR2.1.1 HD2.1 5 (by omega) (.int .i64 num) ⟨⟨id,parent,name,true,schema,num,len,pieces,writer⟩,loc2,cp2⟩ rfl rfl rfl rfl).setBox _ 0 _ hsw.1).setBox _ 1 _ hsw.1) (by rw [qfe,HR2.1.2]) hsw0.1) ?_;rintro W8 ⟨r0,r1,hans,hbel⟩;refine bodyPost_ret (v:=.tuple #[.agg #[.slice (some ⟨g2,0,none⟩) n cap2,.int .i64 nx],.int .i64 0]) (by simp [results,Tryz.results49,go_sem,r0,r1]) rfl ⟨_,by rw [HXX.1],by rw [HXX.1];exact hans,hbel⟩
end
end Go.Proofs.YtackbhpgdohimaaGreatDoor
