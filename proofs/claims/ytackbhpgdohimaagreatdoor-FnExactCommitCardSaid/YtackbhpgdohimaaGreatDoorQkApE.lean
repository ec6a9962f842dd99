/- Texts of ours, laid one behind the other: ApE. -/
import Derived.Test.YtackbhpgdohimaaGreatDoorQkApB
import Derived.Deep.AppendLies
import Derived.Deep.RegionLaw
/- ApE: . -/
namespace Go.Proofs.YtackbhpgdohimaaGreatDoor
set_option maxRecDepth 100000
set_option maxHeartbeats 16000000
open Go.RowKit
attribute [local go_sem ↓] Go.wp_at_zero Go.wp_at_succ
section
open BigFrame
variable {L:List (Nat × List Value)} {gs rs2:List NR} {B C cap2 g2 n:Nat} {v:Value} {W w:World}
structure DR (w W:World) (L:List (Nat × List Value)) (B C n cap2 g2:Nat) (v:Value) (rs2 gs:List NR):Prop where
 mb:MB w W L
 nb:NB W B (.slice (some ⟨g2,0,none⟩) n cap2) rs2
 own:W.ownsRow C 90 9 v gs.length (ncs gs)
theorem DR.below {w W W':World} (h:DR w W L B C n cap2 g2 v rs2 gs) (hb:Below W.heap.size W W'):DR w W' L B C n cap2 g2 v rs2 gs:=
 ⟨h.mb.below hb,h.nb.below hb,h.own.kept (row:=none) ⟨hb.os,hb.tape,hb.output,hb.size,fun k hk _=>hb.block k hk⟩ (by
  cases e:v.ownBlock with
  | none=>exact .inl rfl
  | some k=>exact .inr (by simp))⟩
theorem DR.app {w W w5:World} {B C n cap2 g2 ob gg cap1:Nat} {v nv:Value} {r:NR} {o:Obj} (h:DR w W L B C n cap2 g2 v rs2 gs) (hi:L[1]?=some (ob,[v,nv])) (hb:ob<B) (hBC:B<=C) (hL:∀ p ∈ L,p.1<C) (hwC:w.heap.size<=C) (hg2:g2<C) (hlt:∀ r ∈ rs2,∀ a,r.loc=some a->a.block<C)
  (hgrow:((W.alloc o).drew).grownBy w5 v.ownBlock) (ho:w5.ownsRow C 90 9 (.slice (some ⟨gg,0,none⟩) (gs.length+1) cap1) (gs.length+1) (ncs gs++qaj r)) :
  DR w (w5.setCell ⟨ob,0,none⟩ (.slice (some ⟨gg,0,none⟩) (gs.length+1) cap1)) (L.set 1 (ob,[.slice (some ⟨gg,0,none⟩) (gs.length+1) cap1,nv])) B C n cap2 g2 (.slice (some ⟨gg,0,none⟩) (gs.length+1) cap1) rs2 (gs++[r]):=by
 have hba:Below W.heap.size W (W.alloc o).drew:=(zB.alloc zL _).drew;have hq:∀ k,v.ownBlock=some k->C<=k:=fun k e=>(h.own.lt k e).1;have hgg:=(ho.lt gg rfl).1;refine ⟨?_,?_,?_⟩
 ·exact ((h.mb.below hba).far hgrow (fun p hp e=>by have:=hL p hp;have:=hq p.1 e;omega) (fun k e=>by have:=hq k e;omega)).put 1 hi 0 _ (by simp)
 ·exact ((h.nb.below hba).beyond hgrow hq (fun k e=>by simp [Value.ownBlock] at e;omega) hlt).setBox ob 0 _ hb
 ·have e:ncs (gs++[r])=ncs gs++qaj r:=by simp [ncs]
  rw [e,List.length_append,List.length_singleton];exact ho.kept (qam _ _ _ _) (.inr (by simp [Value.ownBlock];omega))
theorem DR.fin (h:DR w W L B C n cap2 g2 v rs2 gs) (hs:gs.Sublist rs2) (hBC:B<=C):NB W B v gs:=
 ⟨qfr h.own hBC,fun r hr=>h.nb.rows r (hs.subset hr),h.nb.apart.sublist hs⟩
theorem filt_takz (f:NR->Bool) (rs:List NR) (k:Nat) (h:k<rs.length):(rs.take (k+1)).filter f=(rs.take k).filter f++(if f rs[k] then [rs[k]] else []):=by
 rw [List.take_succ_eq_append_getElem h,List.filter_append]
 congr 1
 cases hf:f rs[k] <;> simp [hf]
theorem specDrop {T:TM} {lo hi:Nat} (id:Int) (h:TSee w v T lo hi) (hf:NFit T) (h1n:1<=T.nodes.length):Calls Tryz.prog 48 #[v,.int .i64 id] w fun r w'=>qla (dropT T id) w r w':=by
 have hl:T.nodes.length<=1048576:=by unfold NFit at hf;omega
 have HBL:=zS (fun (i j:Int) (W:World) (hb:Below w.heap.size w W)=>qld i j (h.below hb) hf);have HCP:=zS (fun (W:World) (n:Nat) (hn:n=T.nodes.length) (hb:Below w.heap.size w W)=>qfp (h.below hb) hf hn);obtain ⟨a,cap,rs,rfl,hr,hm⟩:=h;obtain ⟨nodes,nx⟩:=T;dsimp only at *;subst hr;rw [qaf] at h1n;obtain ⟨b,off,rfl,lb,-⟩:=qnc hm 0 (by omega);obtain ⟨n,hn⟩:∃ n,n=rs.length:=⟨_,rfl⟩;have hn0:n ≠ 0:=by omega
 have hn':n<=1048576:=by rw [qaf] at hl;omega
 rw [<-hn] at HBL HCP ⊢;have HN:=zS hn;clear hn hm hf hl h1n;obtain ⟨p,hpd⟩:∃ p:NR->Bool,p=fun r=>!qal (nds rs) 15 r.nd.id id:=⟨_,rfl⟩
 have HPD:Sh (∀ r,p r = !qal (nds rs) 15 r.nd.id id):=⟨fun r=>by rw [hpd]⟩;clear hpd;obtain ⟨i0,hin,hz0,hz1',hz2⟩:=info_parts qjn;have HM0:=zS (MB.three w #[.slice (some ⟨b,off,none⟩) n cap,.int .i64 nx] #[.slice none 0 0,.int .i64 0] #[.slice none 0 0,.int .i64 nx] 37 37 37);obtain ⟨DT,hDT⟩:∃ D,D=dropT ⟨nds rs,nx⟩ id:=⟨_,rfl⟩;rw [<-hDT];have HDT:=zS hDT;clear hDT;go_enter Tryz.func48,Tryz.ntmps48;go_upto_region 2 with fail;refine qaa (fun W=>MB w W [(w.heap.size+1+1,[.slice none 0 0,.int .i64 nx]),(w.heap.size+1,[.slice none 0 0,.int .i64 0]),(w.heap.size,[.slice (some ⟨b,off,none⟩) n cap,.int .i64 nx])]) HM0.1 ?_;intro W0 hM;have HM:=zS hM;clear hM HM0;obtain ⟨x0,x1⟩:=bwb2 ((HM.1.at 2 rfl).1);have hsw:=zS (HM.1.at 0 rfl).1.1;have hsw0:=zS HM.1.bel.size;have HC:=zS (HCP.1 W0 n (by rw [qaf];exact HN.1) HM.1.bel);go_upto_region 3 with (go_at_call 40;refine HC.1.mono ?_;rintro e w1 ⟨a2,cap2,rs2,rfl,hl2,hr2,hnb,hb1⟩;have HR2:=zS (And.intro hl2 hr2);have HNB:=zS hnb;replace HM:=zS (HM.1.below hb1);clear hl2 hr2 hnb x0 x1;have HB1:=zS hb1;clear hb1);obtain ⟨g2,rfl,hg2,hg2',-⟩:=HNB.1.blk HR2.1.1 hn0;have HG2:=zS (And.intro hg2 hg2');have HLT2:=zS HNB.1.lts;clear hg2 hg2';have hsz1:(w1.alloc (.cells #[.slice (some ⟨g2,0,none⟩) n cap2,.int .i64 nx] 37)).heap.size=w1.heap.size+1:=by simp
 have HD0:Sh (DR w (w1.alloc (.cells #[.slice (some ⟨g2,0,none⟩) n cap2,.int .i64 nx] 37)) [(w1.heap.size,[.slice (some ⟨g2,0,none⟩) n cap2,.int .i64 nx]),(w.heap.size+1+1,[.slice none 0 0,.int .i64 nx]),(w.heap.size+1,[.slice none 0 0,.int .i64 0]),(w.heap.size,[.slice (some ⟨b,off,none⟩) n cap,.int .i64 nx])] W0.heap.size (w1.heap.size+1) n cap2 g2 (.slice none 0 0) rs2 []):=⟨HM.1.new _ _,HNB.1.below (zB.alloc zL _),by simpa [ncs] using World.ownsRow_nil _ _ _ _⟩;refine qaa (fun W=>DR w W [(w1.heap.size,[.slice (some ⟨g2,0,none⟩) n cap2,.int .i64 nx]),(w.heap.size+1+1,[.slice none 0 0,.int .i64 nx]),(w.heap.size+1,[.slice none 0 0,.int .i64 0]),(w.heap.size,[.slice (some ⟨b,off,none⟩) n cap,.int .i64 nx])] W0.heap.size (w1.heap.size+1) n cap2 g2 (.slice none 0 0) rs2 []) HD0.1 ?_;rintro W1 hD;have HD:=zS hD;clear hD HD0 HM HNB HC hsz1;go_wp2_with fail;go_loopw [7] (fun i wr=>∃ (k:Nat) (vv:Value),i = .int .i64 k/\k<=n/\Sh (DR w wr [(w1.heap.size,[.slice (some ⟨g2,0,none⟩) n cap2,.int .i64 nx]),(w.heap.size+1+1,[vv,.int .i64 nx]),(w.heap.size+1,[.slice none 0 0,.int .i64 0]),(w.heap.size,[.slice (some ⟨b,off,none⟩) n cap,.int .i64 nx])] W0.heap.size (w1.heap.size+1) n cap2 g2 vv rs2 ((rs2.take k).filter p))) (fun i _=>n - (intOf i).toNat)
 case atStart=>exact ⟨0,_,rfl,Nat.zero_le _,⟨by simpa using HD.1⟩⟩
 case round =>
  clear HD;obtain ⟨k,vv,rfl,hk,hD⟩:=hrel;have z0:=((hD.1.mb.at 0 rfl).1.2 0 _ rfl).1;have k0:(0:Int)<=(k:Int):=by omega
  by_cases hlt:k<n
  ·have k1:(k:Int)<(n:Int):=by omega
   have hk2:k<rs2.length:=by rw [HR2.1.1];exact hlt
   have hstep:=filt_takz p rs2 k hk2;have HRK:Sh (rs2[k]?=some rs2[k]):=⟨by simp⟩;obtain ⟨r,hre⟩:∃ r,r=rs2[k]:=⟨_,rfl⟩;rw [<-hre] at hstep HRK;have HST:=zS hstep;clear hstep hre;have HPR:=zS (HPD.1 r);obtain ⟨⟨id9,parent9,name9,dir9,schema9,quota9,len9,pieces9,writer9⟩,loc9,cp9⟩:=r;dsimp only at HPR;have HBL2:=zS (fun (x:World) (hx:Below w.heap.size w x)=>HBL.1 id9 id x hx);obtain ⟨bl,hbl⟩:∃ q,q=qal (nds rs) 15 id9 id:=⟨_,rfl⟩;rw [<-hbl] at HPR HBL2;clear hbl;go_upto_region 6 with fail
   have HLE:Sh (∀ x,Later wr.drew x->x.cell? ⟨w1.heap.size,0,none⟩=some (.slice (some ⟨g2,0,none⟩) n cap2)/\x.cell? ⟨w.heap.size,0,none⟩=some (.slice (some ⟨b,off,none⟩) n cap)/\x.cell? ⟨w.heap.size,1,none⟩=some (.int .i64 nx)/\x.cell? ⟨g2,k*9,none⟩=some (.int .i64 id9)):=⟨fun x hx=>by
    have D:=hD.1.below (Below.trans zD hx)
    exact ⟨((D.mb.at 0 rfl).1.2 0 _ rfl).1,((D.mb.at 3 rfl).1.2 0 _ rfl).1,((D.mb.at 3 rfl).1.2 1 _ rfl).1,(D.nb.cellK HR2.1.1 HRK.1 0 _ rfl).1⟩⟩
   have HBX:Sh (∀ x,Later wr.drew x->Below w.heap.size w x):=⟨fun x hx=>(hD.1.below (Below.trans zD hx)).mb.bel⟩;refine qar (by kernel_rfl) ?_;refine wpL_v 0 rfl (fun x hx=>by obtain ⟨d0,d1,d2,d3⟩:=HLE.1 x hx;go_simp;try with_reducible rfl) ?_
   try simp only [Act.put,qA,qB,qC]
   refine wpL_v 1 rfl (fun x hx=>by obtain ⟨d0,d1,d2,d3⟩:=HLE.1 x hx;go_simp;try with_reducible rfl) ?_
   try simp only [Act.put,qA,qB,qC]
   refine wpL_v 2 rfl (fun x hx=>by obtain ⟨d0,d1,d2,d3⟩:=HLE.1 x hx;go_simp;try with_reducible rfl) ?_
   try simp only [Act.put,qA,qB,qC]
   refine wpL_v 3 rfl (fun x hx=>by obtain ⟨d0,d1,d2,d3⟩:=HLE.1 x hx;go_simp;try with_reducible rfl) ?_
   try simp only [Act.put,qA,qB,qC]
   refine wpL_v 4 rfl (fun x hx=>by obtain ⟨d0,d1,d2,d3⟩:=HLE.1 x hx;go_simp;try with_reducible rfl) ?_
   try simp only [Act.put,qA,qB,qC]
   refine wpL_v 5 rfl (fun x hx=>by obtain ⟨d0,d1,d2,d3⟩:=HLE.1 x hx;go_simp;try with_reducible rfl) ?_
   try simp only [Act.put,qA,qB,qC]
   refine wpL_v 6 rfl (fun x hx=>by obtain ⟨d0,d1,d2,d3⟩:=HLE.1 x hx;go_simp;try with_reducible rfl) ?_
   try simp only [Act.put,qA,qB,qC]
   refine wpL_v 7 rfl (fun x hx=>by obtain ⟨d0,d1,d2,d3⟩:=HLE.1 x hx;go_simp;try with_reducible rfl) ?_
   try simp only [Act.put,qA,qB,qC]
   refine qcq (i:=8) (v:=.bool bl) (f:=88) (args:=#[.agg #[.slice (some ⟨b,off,none⟩) n cap,.int .i64 nx],.int .i64 id9,.int .i64 id]) rfl (by kernel_rfl) (by kernel_rfl) (by kernel_rfl) (fun _ _ _ h=>h) (by rfl) ?hya8 (fun x hx=>HBL2.1 x (HBX.1 x hx)) ?resta8
   case hya8=>(intro x hx;obtain ⟨d0,d1,d2,d3⟩:=HLE.1 x hx;go_simp;try with_reducible rfl)
   try simp only [Act.put,qA,qB,qC]
   refine wpL_v 9 rfl (fun x hx=>by obtain ⟨d0,d1,d2,d3⟩:=HLE.1 x hx;go_simp;try with_reducible rfl) ?_
   try simp only [Act.put,qA,qB,qC]
   refine qdd (by kernel_rfl) ?_ _;intro W4 hy;replace hD:=zS (hD.1.below (Below.trans zD hy));clear hy HLE HBX HBL2 z0
   cases bl with
   | true =>
    have e1:=HPR.1;go_wp2_with fail;go_roundw
    case rel=>exact ⟨k+1,vv,by go_num,by omega,⟨by rw [HST.1,e1];simpa using hD.1⟩⟩
    case measure=>simp [intOf];omega
   | false =>
    have e1:p ⟨⟨id9,parent9,name9,dir9,schema9,quota9,len9,pieces9,writer9⟩,loc9,cp9⟩=true:=HPR.1;rw [e1,if_pos rfl] at HST;clear HPR e1
    have hlen:((rs2.take k).filter p).length<=1048576:=by
     have:=List.length_filter_le p (rs2.take k);simp at this;omega
    rw [Bool.not_false];go_upto_region 7 with fail;obtain ⟨gs,hgs⟩:∃ gs,gs=(rs2.take k).filter p:=⟨_,rfl⟩;rw [<-hgs] at hD HST hlen;have HGS:=zS hgs;clear hgs;have hown:=hD.1.own;have z0:=((hD.1.mb.at 0 rfl).1.2 0 _ rfl).1;obtain ⟨n0,nf0⟩:=(hD.1.mb.at 1 rfl).1.2 0 _ rfl;have l0:=(hD.1.mb.at 0 rfl).1.1;have l1:=(hD.1.mb.at 1 rfl).1.1;have l2:=(hD.1.nb.own.lt g2 rfl).2;have d0:=(hD.1.nb.cellK HR2.1.1 HRK.1 0 _ rfl).1;have d1:=(hD.1.nb.cellK HR2.1.1 HRK.1 1 _ rfl).1;have d2:=(hD.1.nb.cellK HR2.1.1 HRK.1 2 _ rfl).1;have d3:=(hD.1.nb.cellK HR2.1.1 HRK.1 3 _ rfl).1;have d4:=(hD.1.nb.cellK HR2.1.1 HRK.1 4 _ rfl).1;have d5:=(hD.1.nb.cellK HR2.1.1 HRK.1 5 _ rfl).1;have d6:=(hD.1.nb.cellK HR2.1.1 HRK.1 6 _ rfl).1;have d7:=(hD.1.nb.cellK HR2.1.1 HRK.1 7 _ rfl).1;have d8:=(hD.1.nb.cellK HR2.1.1 HRK.1 8 _ rfl).1;dsimp only [Nat.add_zero] at d0 d1 d2 d3 d4 d5 d6 d7 d8;have hC:w1.heap.size+1<=W4.heap.size:=by omega
    have m1:¬ (w1.heap.size=w.heap.size+1+1):=by have:=hsw.1;have:=HB1.1.size;omega
    have m2:¬ (g2=w.heap.size+1+1):=by have:=hsw.1;have:=HG2.1;omega
    have hob:∀ c,c<w1.heap.size+1->vv.ownBlock ≠ some c:=fun c hc e=>by have:=(hown.lt c e).1;omega
    have nb1:vv.ownBlock ≠ some (w.heap.size+1+1):=hob _ (by have:=hsw.1;have:=HB1.1.size;omega);have nb2:vv.ownBlock ≠ some w1.heap.size:=hob _ (by omega);have nb3:vv.ownBlock ≠ some g2:=hob _ (by have:=HG2.1;omega);have HN9:Sh (qaj ⟨⟨id9,parent9,name9,dir9,schema9,quota9,len9,pieces9,writer9⟩,loc9,cp9⟩=[.int .i64 id9,.int .i64 parent9,.string name9,.bool dir9,.int .i64 schema9,.int .i64 quota9,.int .i64 len9,.slice loc9 pieces9.length cp9,.int .i64 writer9]):=⟨rfl⟩;generalize pieces9.length=pn9 at HN9 d7;clear hob;go_region_law ((refine step_append_lies _ (by rfl) _ _ _ (by rfl) (w1.heap.size+1) 90 i0 _ 9 96 Tryz.underlying35 hin hz0 hz1' hz2 rfl (by omega) _ _ _ (by rfl) ((hown.alloc _).drew) ⟨W4.heap.size,0,none⟩ 1 1 [.int .i64 id9,.int .i64 parent9,.string name9,.bool dir9,.int .i64 schema9,.int .i64 quota9,.int .i64 len9,.slice loc9 pn9 cp9,.int .i64 writer9] (by rfl) (by rfl) (World.news_of_block (cs:=#[.int .i64 id9,.int .i64 parent9,.string name9,.bool dir9,.int .i64 schema9,.int .i64 quota9,.int .i64 len9,.slice loc9 pn9 cp9,.int .i64 writer9]) (t:=90) (fr:=(0,0)) (heap_alloc_new W4 _)) (by simp [Value.oneCell']) (by omega) (by unfold maxLen;omega) (by omega) (by simp;omega) (W4.heap.size+1) (by simp) ?_;intro gg cap1 w5 hown1 hgrow hat hlt';have vc1:=(hgrow.cell_far ⟨w.heap.size+1+1,0,none⟩ (by simp;omega) (Ne.symm nb1)).trans (((hD.1.mb.at 1 rfl).1.alloc _).2 0 _ rfl).1;have vf1:=(hgrow.frozen_far ⟨w.heap.size+1+1,0,none⟩ (by simp;omega) (Ne.symm nb1)).trans (((hD.1.mb.at 1 rfl).1.alloc _).2 0 _ rfl).2))
    all_goals go_wp2_with fail
    all_goals
     refine ⟨⟨k+1,.slice (some ⟨gg,0,none⟩) (gs.length+1) cap1,by go_num,by omega,⟨?_⟩⟩,by simp [intOf];omega⟩;rw [<-HN9.1] at hown1
     have hh:=hD.1.app rfl hsw.1 (by have:=HB1.1.size;omega) (fun q hq=>by
      have h1:=hsw.1;have h2:=HB1.1.size;simp only [List.mem_cons,List.not_mem_nil,or_false] at hq
      rcases hq with rfl | rfl | rfl | rfl <;> simp <;> omega) (by have:=hsw.1;have:=HB1.1.size;omega) (by have:=HG2.1;omega) (fun r hr q e=>by have:=HLT2.1 r hr q e;omega) hgrow hown1
     rw [HST.1];exact hh
  ·have k1:¬ ((k:Int)<(n:Int)):=by omega
   have hkn:k=n:=by omega
   have hall:rs2.take k=rs2:=List.take_of_length_le (by rw [HR2.1.1];omega);rw [hall] at hD;have HSL:Sh ((rs2.filter p).Sublist rs2):=⟨List.filter_sublist⟩
   have HTT:Sh (dropT ⟨nds rs,nx⟩ id=⟨nds (rs2.filter p),nx⟩):=⟨by
    unfold dropT;dsimp only
    congr 1
    rw [<-HR2.1.2];unfold nds;rw [List.filter_map]
    congr 1
    apply List.filter_congr;intro r _;rw [HPD.1 r];have:=HR2.1.2;unfold nds at this
    simp [this,nds]⟩
   rw [HTT.1] at HDT;clear hkn hall HTT;generalize rs2.filter p=gs at hD HSL HDT;obtain ⟨va,vc,rfl⟩:=qhj hD.1.own;obtain ⟨y0,yf0,y1,yf1⟩:=bwc2 ((hD.1.mb.at 1 rfl).1);obtain ⟨q0,qf0,q1,qf1⟩:=bwc2 ((hD.1.mb.at 2 rfl).1);have HF:=zS (hD.1.fin HSL.1 (by have:=HB1.1.size;omega));have hq1:w.heap.size+1<W0.heap.size:=by have:=hsw.1;omega
   generalize gs.length=gl at *;go_wp2_with fail;refine qad (fun W=>FinT w W (w.heap.size+1) (.slice va gl vc) nx ⟨nds gs,nx⟩) (TAns.fin9 ((hD.1.mb.put 2 rfl 0 _ (by simp)).put 2 rfl 1 _ (by simp)) 2 rfl ((HF.1.setBox _ 0 _ hq1).setBox _ 1 _ hq1) rfl hsw0.1) ?_;rintro W8 ⟨r0,r1,hans,hbel⟩;exact bodyPost_ret (v:=.agg #[.slice va gl vc,.int .i64 nx]) (by simp [results,Tryz.results48,go_sem,r0,r1]) rfl ⟨_,rfl,by rw [HDT.1];exact hans,hbel⟩
end
end Go.Proofs.YtackbhpgdohimaaGreatDoor
