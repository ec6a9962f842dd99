/- Texts of ours, laid one behind the other: ApD. -/
import Derived.Test.YtackbhpgdohimaaGreatDoorQkApB
import Derived.Test.YtackbhpgdohimaaGreatDoorQk8
/- ApD: . -/
namespace Go.Proofs.YtackbhpgdohimaaGreatDoor
set_option maxRecDepth 100000
set_option maxHeartbeats 16000000
open Go.RowKit
attribute [local go_sem ↓] Go.wp_at_zero Go.wp_at_succ
section
open BigFrame
theorem specAdd {w:World} {v:Value} {T:TM} {lo hi:Nat} (p:ByteArray) (x:NM) (hx:x.pieces=[]) (h:TSee w v T lo hi) (hf:NFit T) (hp:p.size<=1048576) (h1n:1<=T.nodes.length) (hnx:0<=T.next/\T.next<=1000000) (hfm:NFit (addT T p x)):Calls Tryz.prog 45 #[v,.string p,nv ⟨x,none,0⟩] w fun r w'=>qja (addX T p x) w r w':=by
 have hl:T.nodes.length<=1048576:=by unfold NFit at hf;omega
 have HU:=zS (fun (W:World) (hb:Below w.heap.size w W)=>qco (qab p).1 (h.below hb) hf (Nat.le_trans (qbf p).1 (by omega)));have HF:=zS (fun (W:World) (hb:Below w.heap.size w W)=>qco p (h.below hb) hf hp);have HAT:=zS (fun (i:Int) (W:World) (hb:Below w.heap.size w W)=>qgd i (h.below hb) hl);have HSC:=zS (fun (i:Int) (W:World) (hb:Below w.heap.size w W)=>specSchemaAt i (h.below hb) hf);have HPP:=zS (fun (W:World)=>qeq p W hp);unfold qfj at HPP;have HCP:=zS (fun (W:World) (n:Nat) (hn:n=T.nodes.length) (hb:Below w.heap.size w W)=>qfp (h.below hb) hf hn);have hft:=@qlg T (qab p).1;have HX:Sh (addX T p x=if upX T p=0 then (T,1) else if (ndAt T (plc T (upX T p))).dir=false then (T,3) else if findX T p ≠ 0 then (T,2) else if T.nodes.length=14\/T.next=100000\/qae (addT T p x)=false then (T,8) else (addT T p x,0)):=⟨rfl⟩;have HMT:Sh (addT T p x=⟨T.nodes++[{ x with id:=T.next,parent:=upX T p,name:=(qab p).2.1,schema:=if x.dir then x.schema else qbo T (upX T p) }],T.next+1⟩):=⟨rfl⟩;have HFM:=zS hfm;have HUP:Sh (upX T p=findX T (qab p).1):=⟨rfl⟩;rw [<-HUP.1] at hft;simp only [<-HUP.1] at HU;generalize addX T p x=R at HX ⊢;obtain ⟨TO,hTO⟩:∃ q,q=addT T p x:=⟨_,rfl⟩;rw [<-hTO] at HX HMT HFM;generalize upX T p=up at HU HX HMT hft;generalize findX T p=f2 at HF HX;clear hTO hfm HUP;obtain ⟨a,cap,rs,rfl,hr,hm⟩:=h;obtain ⟨nodes,nx⟩:=T;dsimp only at *;subst hr;rw [qaf] at h1n;obtain ⟨b,off,rfl,lb,-⟩:=qnc hm 0 (by omega)
 have HALL:Sh (∀ j (hj:j<rs.length),NAt w b (off+j*9) rs[j]):=⟨fun j hj=>by
  obtain ⟨b',off',e',-,hc⟩:=TR.nat hm (by omega);cases e'
  exact hc j hj⟩
 obtain ⟨n,hn⟩:∃ n,n=rs.length:=⟨_,rfl⟩;have hn0:n ≠ 0:=by omega
 have hn':n<=1048576:=by rw [qaf] at hl;omega
 rw [qaf] at HX;rw [<-hn] at HU HF HAT HSC HCP HX ⊢;have HN:=zS hn;have HFT:=zS hft;have HNX:=zS hnx;clear hn hm hf hl hp hft h1n hnx;obtain ⟨xid,xparent,xname,xdir,xschema,xquota,xlen,xpieces,xwriter⟩:=x;dsimp only at *;subst hx;obtain ⟨P1,hP1⟩:∃ q,q=(qab p).1:=⟨_,rfl⟩;obtain ⟨nm,hnm⟩:∃ q,q=(qab p).2.1:=⟨_,rfl⟩;obtain ⟨okp,hokp⟩:∃ q,q=(qab p).2.2:=⟨_,rfl⟩;rw [<-hP1,<-hnm,<-hokp] at HPP;rw [<-hP1] at HU;rw [<-hnm] at HMT;clear hP1 hnm hokp;have HMX:=zS (HM_three w (.slice (some ⟨b,off,none⟩) n cap) nx ⟨xid,xparent,xname,xdir,xschema,xquota,xlen,[],xwriter⟩ 37 90 37);dsimp only at HMX;go_enter Tryz.func45,Tryz.ntmps45;go_upto_region 1 with fail;refine qaa (fun W=>MB w W [(w.heap.size+1+1,[.slice none 0 0,.int .i64 0]),(w.heap.size+1,[.int .i64 xid,.int .i64 xparent,.string xname,.bool xdir,.int .i64 xschema,.int .i64 xquota,.int .i64 xlen,.slice none 0 0,.int .i64 xwriter]),(w.heap.size,[.slice (some ⟨b,off,none⟩) n cap,.int .i64 nx])]) HMX.1 ?_;intro W0 hM;have HM:=zS hM;clear hM HMX;obtain ⟨x0,x1⟩:=bwb2 ((HM.1.at 2 rfl).1);have hsw:=zS (HM.1.at 0 rfl).1.1;have hsw0:=zS HM.1.bel.size;have HC:=zS (HCP.1 W0 n (by rw [qaf];exact HN.1) HM.1.bel);go_upto_region 2 with (go_at_call 40;refine HC.1.mono ?_;rintro e w1 ⟨a2,cap2,rs2,rfl,hl2,hr2,hnb,hb1⟩;have HR2:=zS (And.intro hl2 hr2);have HNB:=zS hnb;replace HM:=zS (HM.1.below hb1);clear hl2 hr2 hnb hb1 x0 x1);obtain ⟨g2,rfl,hg2,hg2',-⟩:=HNB.1.blk HR2.1.1 hn0;clear hg2 hg2'
 refine qaa (fun W=>MB w W [(w1.heap.size,[.slice (some ⟨g2,0,none⟩) n cap2,.int .i64 nx]),(w.heap.size+1+1,[.slice none 0 0,.int .i64 0]),(w.heap.size+1,[.int .i64 xid,.int .i64 xparent,.string xname,.bool xdir,.int .i64 xschema,.int .i64 xquota,.int .i64 xlen,.slice none 0 0,.int .i64 xwriter]),(w.heap.size,[.slice (some ⟨b,off,none⟩) n cap,.int .i64 nx])]/\NB W W0.heap.size (.slice (some ⟨g2,0,none⟩) n cap2) rs2) ⟨HM.1.new _ _,HNB.1.below (zB.alloc zL _)⟩ ?_;rintro W1 ⟨hM1,hN1⟩;have HM1:=zS hM1;have HN1:=zS hN1;clear hM1 hN1 HM HNB HC;obtain ⟨x0,x1⟩:=bwb2 ((HM1.1.at 3 rfl).1);obtain ⟨z0,zf0,z1,zf1⟩:=bwc2 ((HM1.1.at 0 rfl).1);obtain ⟨q0,qf0,q1,qf1⟩:=bwc2 ((HM1.1.at 1 rfl).1)
 go_upto_region 4 with (first
  | (go_at_call 85;refine (HPP.1 _).mono ?_;rintro e w2 ⟨rfl,hb2⟩;replace HM1:=zS (HM1.1.below hb2);replace HN1:=zS (HN1.1.below hb2);clear x0 x1 z0 zf0 z1 zf1 q0 qf0 q1 qf1 hb2;have x0:=((HM1.1.at 3 rfl).1.2 0 _ rfl).1;have x1:=((HM1.1.at 3 rfl).1.2 1 _ rfl).1;obtain ⟨z0,zf0⟩:=(HM1.1.at 0 rfl).1.2 0 _ rfl;obtain ⟨z1,zf1⟩:=(HM1.1.at 0 rfl).1.2 1 _ rfl;obtain ⟨q0,qf0⟩:=(HM1.1.at 1 rfl).1.2 0 _ rfl;obtain ⟨q1,qf1⟩:=(HM1.1.at 1 rfl).1.2 1 _ rfl)
  | (go_at_call 46;refine (HU.1 _ HM1.1.bel).mono ?_;rintro e w3 ⟨rfl,hb3⟩;replace HM1:=zS (HM1.1.below hb3);replace HN1:=zS (HN1.1.below hb3);clear x0 x1 z0 zf0 z1 zf1 q0 qf0 q1 qf1 hb3;have x0:=((HM1.1.at 3 rfl).1.2 0 _ rfl).1;have x1:=((HM1.1.at 3 rfl).1.2 1 _ rfl).1;obtain ⟨z0,zf0⟩:=(HM1.1.at 0 rfl).1.2 0 _ rfl;obtain ⟨z1,zf1⟩:=(HM1.1.at 0 rfl).1.2 1 _ rfl;obtain ⟨q0,qf0⟩:=(HM1.1.at 1 rfl).1.2 0 _ rfl;obtain ⟨q1,qf1⟩:=(HM1.1.at 1 rfl).1.2 1 _ rfl))
 by_cases hup:up=0
 ·have b0:(up==0)=true:=by simp [hup]
  have HXX:Sh (R=(⟨nds rs,nx⟩,1)):=⟨by rw [HX.1,if_pos hup]⟩;clear hup;go_wp2_with fail;refine qad (fun W=>FinT w W (w.heap.size+1+1) (.slice (some ⟨g2,0,none⟩) n cap2) nx ⟨nds rs,nx⟩) (TAns.fin9 ((HM1.1.put 1 rfl 0 _ (by simp)).put 1 rfl 1 _ (by simp)) 1 rfl ((HN1.1.setBox _ 0 _ hsw.1).setBox _ 1 _ hsw.1) HR2.1.2 hsw0.1) ?_;rintro W8 ⟨r0,r1,hans,hbel⟩;refine bodyPost_ret (v:=.tuple #[.agg #[.slice (some ⟨g2,0,none⟩) n cap2,.int .i64 nx],.int .i64 1]) (by simp [results,Tryz.results45,go_sem,r0,r1]) rfl ⟨_,by rw [HXX.1],by rw [HXX.1];exact hans,hbel⟩
 have b0:(up==0)=false:=by simp [hup]
 obtain ⟨ku,hku,hau,-⟩:=HFT.1 hup;have hkur:ku<rs.length:=by rw [qaf] at hku;exact hku
 have HAU:Sh (atI (nds rs) up=(ku:Int)):=⟨hau⟩;have HNU:=zS (HALL.1 ku hkur)
 have HDU:Sh ((ndAt ⟨nds rs,nx⟩ (plc ⟨nds rs,nx⟩ up)).dir=(rs[ku]).nd.dir):=⟨by
  have e1:plc ⟨nds rs,nx⟩ up=ku:=by unfold plc;dsimp only;rw [hau];rfl
  rw [e1]
  simp [ndAt,nds,List.getD,hkur]⟩
 obtain ⟨ru,hru⟩:∃ r,r=rs[ku]:=⟨_,rfl⟩;rw [<-hru] at HNU HDU;have hkun:ku<n:=by have:=HN.1;omega
 clear hru hau hku hkur;obtain ⟨du,hdu⟩:∃ d,d=ru.nd.dir:=⟨_,rfl⟩;rw [<-hdu] at HDU;have HDD:=zS hdu;clear hdu;have HX2:Sh (R=if du=false then (⟨nds rs,nx⟩,3) else if f2 ≠ 0 then (⟨nds rs,nx⟩,2) else if n=14\/nx=100000\/qae TO=false then (⟨nds rs,nx⟩,8) else (TO,0)):=⟨by rw [HX.1,if_neg hup,HDU.1]⟩;have ku0:(0:Int)<=(ku:Int):=by omega
 have ku1:(ku:Int)<(n:Int):=by omega
 clear hup HX HDU;go_upto_region 6 with fail
 have HLE:Sh (∀ x,Later w3.drew x->x.cell? ⟨w.heap.size,0,none⟩=some (.slice (some ⟨b,off,none⟩) n cap)/\x.cell? ⟨w.heap.size,1,none⟩=some (.int .i64 nx)/\x.cell? ⟨b,off+ku*9+3,none⟩=some (.bool du)):=⟨fun x hx=>by
  have hb:Below w3.heap.size w3 x:=Below.trans zD hx;have M:=HM1.1.below hb;obtain ⟨-,-,-,c3,-⟩:=HNU.1.below M.bel lb;rw [<-HDD.1] at c3
  exact ⟨((M.at 3 rfl).1.2 0 _ rfl).1,((M.at 3 rfl).1.2 1 _ rfl).1,c3⟩⟩
 have HBX:Sh (∀ x,Later w3.drew x->Below w.heap.size w x):=⟨fun x hx=>HM1.1.bel.trans ((Below.trans zD hx:Below w3.heap.size w3 x).mono HM1.1.bel.size)⟩;have HA2:=zS (fun (x:World) (hx:Below w.heap.size w x)=>HAT.1 up x hx);rw [HAU.1] at HA2;refine qar (by kernel_rfl) ?_;refine wpL_v 0 rfl (fun x hx=>by obtain ⟨d0,d1,d2⟩:=HLE.1 x hx;go_simp;try with_reducible rfl) ?_
 try simp only [Act.put,qA,qB,qC]
 refine wpL_v 1 rfl (fun x hx=>by obtain ⟨d0,d1,d2⟩:=HLE.1 x hx;go_simp;try with_reducible rfl) ?_
 try simp only [Act.put,qA,qB,qC]
 refine wpL_v 2 rfl (fun x hx=>by obtain ⟨d0,d1,d2⟩:=HLE.1 x hx;go_simp;try with_reducible rfl) ?_
 try simp only [Act.put,qA,qB,qC]
 refine wpL_v 3 rfl (fun x hx=>by obtain ⟨d0,d1,d2⟩:=HLE.1 x hx;go_simp;try with_reducible rfl) ?_
 try simp only [Act.put,qA,qB,qC]
 refine qcq (i:=4) (v:=.int .i64 (ku:Nat)) (f:=50) (args:=#[.agg #[.slice (some ⟨b,off,none⟩) n cap,.int .i64 nx],.int .i64 up]) rfl (by kernel_rfl) (by kernel_rfl) (by kernel_rfl) (fun _ _ _ h=>h) (by rfl) ?hya4 (fun x hx=>HA2.1 x (HBX.1 x hx)) ?resta4
 case hya4=>(intro x hx;obtain ⟨d0,d1,d2⟩:=HLE.1 x hx;go_simp;try with_reducible rfl)
 try simp only [Act.put,qA,qB,qC]
 refine wpL_v 5 rfl (fun x hx=>by obtain ⟨d0,d1,d2⟩:=HLE.1 x hx;go_simp;try with_reducible rfl) ?_
 try simp only [Act.put,qA,qB,qC]
 refine wpL_v 6 rfl (fun x hx=>by obtain ⟨d0,d1,d2⟩:=HLE.1 x hx;go_simp;try with_reducible rfl) ?_
 try simp only [Act.put,qA,qB,qC]
 refine wpL_v 7 rfl (fun x hx=>by obtain ⟨d0,d1,d2⟩:=HLE.1 x hx;go_simp;try with_reducible rfl) ?_
 try simp only [Act.put,qA,qB,qC]
 refine wpL_v 8 rfl (fun x hx=>by obtain ⟨d0,d1,d2⟩:=HLE.1 x hx;go_simp;try with_reducible rfl) ?_
 try simp only [Act.put,qA,qB,qC]
 refine qdd (by kernel_rfl) ?_ _;intro W4 hy;have HB9:=(Below.trans zD hy:Below w3.heap.size w3 W4);replace HM1:=zS (HM1.1.below HB9);replace HN1:=zS (HN1.1.below HB9);clear x0 x1 z0 zf0 z1 zf1 q0 qf0 q1 qf1 HB9;obtain ⟨x0,x1⟩:=bwb2 ((HM1.1.at 3 rfl).1);obtain ⟨z0,zf0,z1,zf1⟩:=bwc2 ((HM1.1.at 0 rfl).1);obtain ⟨q0,qf0,q1,qf1⟩:=bwc2 ((HM1.1.at 1 rfl).1);clear hy HLE HBX HA2
 cases du with
 | false =>
  have HXX:Sh (R=(⟨nds rs,nx⟩,3)):=⟨by rw [HX2.1];rfl⟩;go_wp2_with fail;refine qad (fun W=>FinT w W (w.heap.size+1+1) (.slice (some ⟨g2,0,none⟩) n cap2) nx ⟨nds rs,nx⟩) (TAns.fin9 ((HM1.1.put 1 rfl 0 _ (by simp)).put 1 rfl 1 _ (by simp)) 1 rfl ((HN1.1.setBox _ 0 _ hsw.1).setBox _ 1 _ hsw.1) HR2.1.2 hsw0.1) ?_;rintro W8 ⟨r0,r1,hans,hbel⟩;refine bodyPost_ret (v:=.tuple #[.agg #[.slice (some ⟨g2,0,none⟩) n cap2,.int .i64 nx],.int .i64 3]) (by simp [results,Tryz.results45,go_sem,r0,r1]) rfl ⟨_,by rw [HXX.1],by rw [HXX.1];exact hans,hbel⟩
 | true =>
 go_upto_if 41 with (go_at_call 46;refine (HF.1 _ HM1.1.bel).mono ?_;rintro e w5 ⟨rfl,hb5⟩;replace HM1:=zS (HM1.1.below hb5);replace HN1:=zS (HN1.1.below hb5);clear x0 x1 z0 zf0 z1 zf1 q0 qf0 q1 qf1 hb5;have x0:=((HM1.1.at 3 rfl).1.2 0 _ rfl).1;have x1:=((HM1.1.at 3 rfl).1.2 1 _ rfl).1;obtain ⟨z0,zf0⟩:=(HM1.1.at 0 rfl).1.2 0 _ rfl;obtain ⟨z1,zf1⟩:=(HM1.1.at 0 rfl).1.2 1 _ rfl;obtain ⟨q0,qf0⟩:=(HM1.1.at 1 rfl).1.2 0 _ rfl;obtain ⟨q1,qf1⟩:=(HM1.1.at 1 rfl).1.2 1 _ rfl)
 by_cases hf2:f2=0
 case neg =>
  have b2:(f2 != 0)=true:=by simp [hf2]
  have HXX:Sh (R=(⟨nds rs,nx⟩,2)):=⟨by rw [HX2.1,if_neg (by simp),if_pos hf2]⟩;clear hf2;go_wp2_with fail;refine qad (fun W=>FinT w W (w.heap.size+1+1) (.slice (some ⟨g2,0,none⟩) n cap2) nx ⟨nds rs,nx⟩) (TAns.fin9 ((HM1.1.put 1 rfl 0 _ (by simp)).put 1 rfl 1 _ (by simp)) 1 rfl ((HN1.1.setBox _ 0 _ hsw.1).setBox _ 1 _ hsw.1) HR2.1.2 hsw0.1) ?_;rintro W8 ⟨r0,r1,hans,hbel⟩;refine bodyPost_ret (v:=.tuple #[.agg #[.slice (some ⟨g2,0,none⟩) n cap2,.int .i64 nx],.int .i64 2]) (by simp [results,Tryz.results45,go_sem,r0,r1]) rfl ⟨_,by rw [HXX.1],by rw [HXX.1];exact hans,hbel⟩
 have b2:(f2 != 0)=false:=by simp [hf2]
 rw [b2];have HX3:Sh (R=if n=14\/nx=100000\/qae TO=false then (⟨nds rs,nx⟩,8) else (TO,0)):=⟨by rw [HX2.1,if_neg (by simp),if_neg (by simp [hf2])]⟩;clear hf2 HX2;obtain ⟨sch,hsch⟩:∃ q,q=if xdir then xschema else qbo ⟨nds rs,nx⟩ up:=⟨_,rfl⟩
 rw [<-hsch] at HMT;have HS3:=zS (fun (x:World) (hx:Below w.heap.size w x)=>HSC.1 up x hx);obtain ⟨u0,uf0,u1,uf1,u2,uf2,u3,uf3⟩:=bwc4 ((HM1.1.at 2 rfl).1);have ne0:¬ (w.heap.size+1=w.heap.size):=by omega
 go_upto_if 52 with fail
 have HM2:Sh (MB w (((w5.setCell ⟨w.heap.size+1,0,none⟩ (.int .i64 nx)).setCell ⟨w.heap.size+1,1,none⟩ (.int .i64 up)).setCell ⟨w.heap.size+1,2,none⟩ (.string nm)) [(w1.heap.size,[.slice (some ⟨g2,0,none⟩) n cap2,.int .i64 nx]),(w.heap.size+1+1,[.slice none 0 0,.int .i64 0]),(w.heap.size+1,[.int .i64 nx,.int .i64 up,.string nm,.bool xdir,.int .i64 xschema,.int .i64 xquota,.int .i64 xlen,.slice none 0 0,.int .i64 xwriter]),(w.heap.size,[.slice (some ⟨b,off,none⟩) n cap,.int .i64 nx])]/\NB (((w5.setCell ⟨w.heap.size+1,0,none⟩ (.int .i64 nx)).setCell ⟨w.heap.size+1,1,none⟩ (.int .i64 up)).setCell ⟨w.heap.size+1,2,none⟩ (.string nm)) W0.heap.size (.slice (some ⟨g2,0,none⟩) n cap2) rs2):=⟨((HM1.1.put 2 rfl 0 _ (by simp)).put 2 rfl 1 _ (by simp)).put 2 rfl 2 _ (by simp),((HN1.1.setBox _ 0 _ (by have:=hsw.1;omega)).setBox _ 1 _ (by have:=hsw.1;omega)).setBox _ 2 _ (by have:=hsw.1;omega)⟩;refine qaa (fun W=>MB w W [(w1.heap.size,[.slice (some ⟨g2,0,none⟩) n cap2,.int .i64 nx]),(w.heap.size+1+1,[.slice none 0 0,.int .i64 0]),(w.heap.size+1,[.int .i64 nx,.int .i64 up,.string nm,.bool xdir,.int .i64 xschema,.int .i64 xquota,.int .i64 xlen,.slice none 0 0,.int .i64 xwriter]),(w.heap.size,[.slice (some ⟨b,off,none⟩) n cap,.int .i64 nx])]/\NB W W0.heap.size (.slice (some ⟨g2,0,none⟩) n cap2) rs2) HM2.1 ?_;rintro W2 hW2;replace HM2:=zS hW2;clear hW2 HM1 HN1 u0 uf0 u1 uf1 u2 uf2 u3 uf3 x0 x1 z0 zf0 z1 zf1 q0 qf0 q1 qf1;have HSCH:=zS hsch;clear hsch
 go_cut [5] from 52 to 56 (fun u wx=>u = .pointer (some ⟨w.heap.size+1,0,none⟩)/\Sh (MB w wx [(w1.heap.size,[.slice (some ⟨g2,0,none⟩) n cap2,.int .i64 nx]),(w.heap.size+1+1,[.slice none 0 0,.int .i64 0]),(w.heap.size+1,[.int .i64 nx,.int .i64 up,.string nm,.bool xdir,.int .i64 sch,.int .i64 xquota,.int .i64 xlen,.slice none 0 0,.int .i64 xwriter]),(w.heap.size,[.slice (some ⟨b,off,none⟩) n cap,.int .i64 nx])]/\NB wx W0.heap.size (.slice (some ⟨g2,0,none⟩) n cap2) rs2))
 case first =>
  obtain ⟨x0,x1⟩:=bwb2 ((HM2.1.1.at 3 rfl).1)
  cases xdir with
  | true =>
   have e:=HSCH.1;rw [if_pos rfl] at e;subst e;go_wp2_with fail;go_meet
   case rel=>exact ⟨rfl,⟨HM2.1⟩⟩
  | false =>
   have e:=HSCH.1;rw [if_neg (by simp)] at e;rw [<-e] at HS3;clear e;go_wp2_with (go_at_call 86;refine (HS3.1 _ HM2.1.1.bel).mono ?_;rintro e w6 ⟨rfl,hb6⟩;have HM3:=zS (And.intro (HM2.1.1.below hb6) (HM2.1.2.below hb6));obtain ⟨u4,uf4⟩:=(HM3.1.1.at 2 rfl).1.2 4 _ rfl;clear hb6 x0 x1);go_meet
   case rel=>exact ⟨rfl,⟨HM3.1.1.put 2 rfl 4 _ (by simp),HM3.1.2.setBox _ 4 _ (by have:=hsw.1;omega)⟩⟩
 case rest =>
 obtain ⟨rfl,hC⟩:=hcut;have HM1:=zS hC.1.1;have HN1:=zS hC.1.2;clear hC HM2 HS3 HSCH;have HC3:=zS (HCP.1 wc n (by rw [qaf];exact HN.1) HM1.1.bel);have hz1:=zS (And.intro (HM1.1.at 0 rfl).1.1 (And.intro (HM1.1.at 1 rfl).1.1 (HN1.1.own.lt g2 rfl).2));have HLT2:=zS HN1.1.lts;obtain ⟨x0,x1⟩:=bwb2 ((HM1.1.at 3 rfl).1);obtain ⟨z0,zf0,z1,zf1⟩:=bwc2 ((HM1.1.at 0 rfl).1);obtain ⟨q0,qf0,q1,qf1⟩:=bwc2 ((HM1.1.at 1 rfl).1);go_upto_region 16 with (go_at_call 40;refine HC3.1.mono ?_;rintro e w7 ⟨a3,cap3,rs3,rfl,hl3,hr3,hnb3,hb7⟩;have HR3:=zS (And.intro hl3 hr3);have HNB3:=zS hnb3;have hs67:=zS hb7.size;clear hl3 hr3 hnb3;replace HM1:=zS (HM1.1.below hb7);replace HN1:=zS (HN1.1.below hb7);clear x0 x1 z0 zf0 z1 zf1 q0 qf0 q1 qf1 hb7;have x0:=((HM1.1.at 3 rfl).1.2 0 _ rfl).1;have x1:=((HM1.1.at 3 rfl).1.2 1 _ rfl).1;obtain ⟨z0,zf0⟩:=(HM1.1.at 0 rfl).1.2 0 _ rfl;obtain ⟨z1,zf1⟩:=(HM1.1.at 0 rfl).1.2 1 _ rfl;obtain ⟨q0,qf0⟩:=(HM1.1.at 1 rfl).1.2 0 _ rfl;obtain ⟨q1,qf1⟩:=(HM1.1.at 1 rfl).1.2 1 _ rfl);obtain ⟨g3,rfl,hg3,hg3',-⟩:=HNB3.1.blk HR3.1.1 hn0;have HLT3:=zS HNB3.1.lts;have nxb:=HNX.1;refine qaa (fun W=>MB w W [(w7.heap.size,[.slice (some ⟨g3,0,none⟩) n cap3,.int .i64 nx]),(w1.heap.size,[.slice (some ⟨g2,0,none⟩) n cap2,.int .i64 nx]),(w.heap.size+1+1,[.slice none 0 0,.int .i64 0]),(w.heap.size+1,[.int .i64 nx,.int .i64 up,.string nm,.bool xdir,.int .i64 sch,.int .i64 xquota,.int .i64 xlen,.slice none 0 0,.int .i64 xwriter]),(w.heap.size,[.slice (some ⟨b,off,none⟩) n cap,.int .i64 nx])]/\NB W W0.heap.size (.slice (some ⟨g2,0,none⟩) n cap2) rs2/\NB W wc.heap.size (.slice (some ⟨g3,0,none⟩) n cap3) rs3) ⟨HM1.1.new _ _,HN1.1.below (zB.alloc zL _),HNB3.1.below (zB.alloc zL _)⟩ ?_;rintro W5 ⟨hM5,hN5,hP5⟩;clear x0 x1 z0 zf0 z1 zf1 q0 qf0 q1 qf1;have HM5:=zS hM5
 have HN5:=zS hN5;have HP5:=zS hP5;have HG3:=zS (And.intro hg3 hg3');clear hM5 hN5 hP5 HM1 HN1 HNB3 HC3 hg3 hg3';obtain ⟨i0,hin,hz0,hz1',hz2⟩:=info_parts qjn;have ho:W5.ownsRow wc.heap.size 90 9 (.slice (some ⟨g3,0,none⟩) n cap3) n (ncs rs3):=by have:=HP5.1.own;rw [HR3.1.1] at this;exact this
 have n0:=(HM5.1.at 0 rfl).1.2 0 _ rfl;obtain ⟨n0,nf0⟩:=n0;obtain ⟨d0,d1,d2,d3,d4,d5,d6,d7,d8⟩:=bwb9 ((HM5.1.at 3 rfl).1);have hwl:wc.heap.size<=W5.heap.size:=by have:=(HP5.1.own.lt g3 rfl);omega
 go_wp2_with (at_builtin;refine wpList_append_own_at _ rfl _ _ 35 rfl wc.heap.size 90 i0 _ 9 96 Tryz.underlying35 hin hz0 hz1' hz2 rfl (by decide) _ _ _ rfl (ho.alloc _) ⟨W5.heap.size,0,none⟩ 1 1 [.int .i64 nx,.int .i64 up,.string nm,.bool xdir,.int .i64 sch,.int .i64 xquota,.int .i64 xlen,.slice none 0 0,.int .i64 xwriter] rfl rfl (World.news_of_block (cs:=#[.int .i64 nx,.int .i64 up,.string nm,.bool xdir,.int .i64 sch,.int .i64 xquota,.int .i64 xlen,.slice none 0 0,.int .i64 xwriter]) (t:=90) (fr:=(0,0)) (heap_alloc_new W5 _)) ?c2 ?c3 ?c4 ?c5 ?_)
 case c2=>simp [Value.oneCell']
 case c3=>unfold maxLen;omega
 case c4=>omega
 case c5=>first | omega | (simp;omega)
 intro v' w10 ho10 hgrow _ hat;obtain ⟨ng,ncap,ncur,rfl,hng,lng,hnt⟩:=qfg ho10 (by omega);have hba:Below W5.heap.size W5 (W5.alloc (.cells #[.int .i64 nx,.int .i64 up,.string nm,.bool xdir,.int .i64 sch,.int .i64 xquota,.int .i64 xlen,.slice none 0 0,.int .i64 xwriter] 90)):=zB.alloc zL _;have hsz5:(W5.alloc (.cells #[.int .i64 nx,.int .i64 up,.string nm,.bool xdir,.int .i64 sch,.int .i64 xquota,.int .i64 xlen,.slice none 0 0,.int .i64 xwriter] 90)).heap.size=W5.heap.size+1:=by simp
 have hbx:=HM5.1.at 0 rfl
 have hnb:NB w10 wc.heap.size (.slice (some ⟨ng,0,none⟩) (n+1) ncap) (rs3++[⟨⟨nx,up,nm,xdir,sch,xquota,xlen,[],xwriter⟩,none,0⟩]):=by
  refine NB.snoc (r:=⟨⟨nx,up,nm,xdir,sch,xquota,xlen,[],xwriter⟩,none,0⟩) HP5.1 hba (World.ownsRow_nil _ _ _ _) (fun h=>absurd rfl h) ?_ hgrow;rw [HR3.1.1];exact ho10
 have hne:ng ≠ w7.heap.size:=by
  have h1:=HG3.1;have h2:=hbx.1.1;rcases hat with e | e
  ·simp [Value.ownBlock] at e;omega
  ·simp [Value.ownBlock] at e;omega
 have hM10:MB w w10 [(w7.heap.size,[.slice (some ⟨g3,0,none⟩) n cap3,.int .i64 nx]),(w1.heap.size,[.slice (some ⟨g2,0,none⟩) n cap2,.int .i64 nx]),(w.heap.size+1+1,[.slice none 0 0,.int .i64 0]),(w.heap.size+1,[.int .i64 nx,.int .i64 up,.string nm,.bool xdir,.int .i64 sch,.int .i64 xquota,.int .i64 xlen,.slice none 0 0,.int .i64 xwriter]),(w.heap.size,[.slice (some ⟨b,off,none⟩) n cap,.int .i64 nx])]:=(HM5.1.below hba).far hgrow (fun p hp=>by
  have h1:=HG3.1;have h2:=hz1.1;have h3:=hs67.1;simp only [List.mem_cons,List.not_mem_nil,or_false] at hp
  rcases hp with rfl | rfl | rfl | rfl | rfl <;> simp [Value.ownBlock] <;> omega) (fun q hq=>by
   have h1:=HG3.1;have h2:=hz1.1;simp [Value.ownBlock] at hq
   omega)
 have hN10:NB w10 W0.heap.size (.slice (some ⟨g2,0,none⟩) n cap2) rs2:=by
  obtain ⟨cur3,hc3⟩:=qau (HP5.1.below hba).own (show (Value.slice (some ⟨g3,0,none⟩) n cap3).ownBlock=some g3 from rfl);have hN:=HN5.1.below hba;refine ⟨hN.own.kept hgrow (.inr (by have h1:=HG3.1;have h2:=hz1.1;simp [Value.ownBlock];omega)),fun r hr=>(hN.rows r hr).kept hgrow ?_,hN.apart⟩
  cases e:(Value.slice r.loc r.nd.pieces.length r.cap).ownBlock with
  | none=>exact .inl rfl
  | some q =>
   refine .inr fun e2=>?_;obtain ⟨c1,h1⟩:=qau (hN.rows r hr) e;rw [e2] at e;simp [Value.ownBlock] at e2;subst e2;rw [hc3] at h1;simp at h1
 have hlt10:∀ r ∈ rs3++[⟨⟨nx,up,nm,xdir,sch,xquota,xlen,[],xwriter⟩,none,0⟩],∀ q,r.loc=some q->q.block ≠ w7.heap.size:=fun r hr q e=>by
  rcases List.mem_append.1 hr with h | h
  ·have:=HLT3.1 r h q e;omega
  ·rw [List.mem_singleton.1 h] at e;cases e
 obtain ⟨n9,nf9,n8,nf8⟩:=bwc2 ((hM10.at 0 rfl).1);have t1:=((hM10.at 4 rfl).1.2 1 _ rfl).1;have ne5:¬ (w7.heap.size=w.heap.size):=by have:=hz1.1;have:=hs67.1;omega
 have ne6:¬ (w.heap.size=w7.heap.size):=by have:=hz1.1;have:=hs67.1;omega
 have hlt2:∀ r ∈ rs2,∀ q,r.loc=some q->q.block ≠ w7.heap.size:=fun r hr q e=>by
  have:=HLT2.1 r hr q e;have:=hs67.1;omega
 have HM9:Sh (MB w ((w10.setCell ⟨w7.heap.size,0,none⟩ (.slice (some ⟨ng,0,none⟩) (n+1) ncap)).setCell ⟨w7.heap.size,1,none⟩ (.int .i64 (nx+1))) [(w7.heap.size,[.slice (some ⟨ng,0,none⟩) (n+1) ncap,.int .i64 (nx+1)]),(w1.heap.size,[.slice (some ⟨g2,0,none⟩) n cap2,.int .i64 nx]),(w.heap.size+1+1,[.slice none 0 0,.int .i64 0]),(w.heap.size+1,[.int .i64 nx,.int .i64 up,.string nm,.bool xdir,.int .i64 sch,.int .i64 xquota,.int .i64 xlen,.slice none 0 0,.int .i64 xwriter]),(w.heap.size,[.slice (some ⟨b,off,none⟩) n cap,.int .i64 nx])]/\NB ((w10.setCell ⟨w7.heap.size,0,none⟩ (.slice (some ⟨ng,0,none⟩) (n+1) ncap)).setCell ⟨w7.heap.size,1,none⟩ (.int .i64 (nx+1))) W0.heap.size (.slice (some ⟨g2,0,none⟩) n cap2) rs2/\NB ((w10.setCell ⟨w7.heap.size,0,none⟩ (.slice (some ⟨ng,0,none⟩) (n+1) ncap)).setCell ⟨w7.heap.size,1,none⟩ (.int .i64 (nx+1))) wc.heap.size (.slice (some ⟨ng,0,none⟩) (n+1) ncap) (rs3++[⟨⟨nx,up,nm,xdir,sch,xquota,xlen,[],xwriter⟩,none,0⟩])):=⟨(hM10.put 0 rfl 0 _ (by simp)).put 0 rfl 1 _ (by simp),(hN10.setAway _ 0 _ (by have h2:=hz1.1;have h3:=hs67.1;simp [Value.ownBlock];omega) hlt2).setAway _ 1 _ (by have h2:=hz1.1;have h3:=hs67.1;simp [Value.ownBlock];omega) hlt2,(hnb.setAway _ 0 _ (by simp [Value.ownBlock];exact hne) hlt10).setAway _ 1 _ (by simp [Value.ownBlock];exact hne) hlt10⟩;clear hlt2 hlt10 hnb hM10 hN10 ho10 hgrow hat hba hsz5 hbx ho hnt d0 d1 d2 d3 d4 d5 d6 d7 d8 n0 nf0;go_upto_region 18 with fail
 refine qaa (fun W=>MB w W [(w7.heap.size,[.slice (some ⟨ng,0,none⟩) (n+1) ncap,.int .i64 (nx+1)]),(w1.heap.size,[.slice (some ⟨g2,0,none⟩) n cap2,.int .i64 nx]),(w.heap.size+1+1,[.slice none 0 0,.int .i64 0]),(w.heap.size+1,[.int .i64 nx,.int .i64 up,.string nm,.bool xdir,.int .i64 sch,.int .i64 xquota,.int .i64 xlen,.slice none 0 0,.int .i64 xwriter]),(w.heap.size,[.slice (some ⟨b,off,none⟩) n cap,.int .i64 nx])]/\NB W W0.heap.size (.slice (some ⟨g2,0,none⟩) n cap2) rs2/\NB W wc.heap.size (.slice (some ⟨ng,0,none⟩) (n+1) ncap) (rs3++[⟨⟨nx,up,nm,xdir,sch,xquota,xlen,[],xwriter⟩,none,0⟩])) HM9.1 ?_;rintro W9 ⟨hM5,hN5,hP5⟩;replace HM5:=zS hM5;replace HN5:=zS hN5;replace HP5:=zS hP5;clear hM5 hN5 hP5 HM9 n9 nf9 n8 nf8 t1;have HTT:Sh (TO=⟨nds (rs3++[⟨⟨nx,up,nm,xdir,sch,xquota,xlen,[],xwriter⟩,none,0⟩]),nx+1⟩):=⟨by rw [HMT.1,qci,HR3.1.2]⟩;rw [HTT.1] at HFM HX3;have HOK:=zS (qdy ((HP5.1.fin (nx:=nx+1)).see) HFM.1);have HL9:Sh ((rs3++[(⟨⟨nx,up,nm,xdir,sch,xquota,xlen,[],xwriter⟩,none,0⟩:NR)]).length=n+1):=⟨by rw [List.length_append,HR3.1.1];rfl⟩;generalize rs3++[(⟨⟨nx,up,nm,xdir,sch,xquota,xlen,[],xwriter⟩,none,0⟩:NR)]=rs9 at HP5 HTT HFM HX3 HOK HL9;obtain ⟨tk,htk⟩:∃ q,q=qae ⟨nds rs9,nx+1⟩:=⟨_,rfl⟩;rw [<-htk] at HOK HX3;clear htk HFM HTT HMT;obtain ⟨n0,n1⟩:=bwb2 ((HM5.1.at 0 rfl).1);obtain ⟨x0,x1⟩:=bwb2 ((HM5.1.at 4 rfl).1);obtain ⟨z0,zf0,z1,zf1⟩:=bwc2 ((HM5.1.at 1 rfl).1);obtain ⟨q0,qf0,q1,qf1⟩:=bwc2 ((HM5.1.at 2 rfl).1)
 by_cases h14:n=14
 ·have b14:((n:Int)==14)=true:=by simp;omega
  have HXX:Sh (R=(⟨nds rs,nx⟩,8)):=⟨by rw [HX3.1,if_pos (.inl h14)]⟩;clear h14;go_wp2_with fail;refine qad (fun W=>FinT w W (w.heap.size+1+1) (.slice (some ⟨g2,0,none⟩) n cap2) nx ⟨nds rs,nx⟩) (TAns.fin9 ((HM5.1.put 2 rfl 0 _ (by simp)).put 2 rfl 1 _ (by simp)) 2 rfl ((HN5.1.setBox _ 0 _ hsw.1).setBox _ 1 _ hsw.1) HR2.1.2 hsw0.1) ?_;rintro W8 ⟨r0,r1,hans,hbel⟩;refine bodyPost_ret (v:=.tuple #[.agg #[.slice (some ⟨g2,0,none⟩) n cap2,.int .i64 nx],.int .i64 8]) (by simp [results,Tryz.results45,go_sem,r0,r1]) rfl ⟨_,by rw [HXX.1],by rw [HXX.1];exact hans,hbel⟩
 have b14:((n:Int)==14)=false:=by simp;omega
 by_cases h100:nx=100000
 ·have b100:(nx==100000)=true:=by simp [h100]
  have HXX:Sh (R=(⟨nds rs,nx⟩,8)):=⟨by rw [HX3.1,if_pos (.inr (.inl h100))]⟩;clear h14 h100;go_wp2_with fail;refine qad (fun W=>FinT w W (w.heap.size+1+1) (.slice (some ⟨g2,0,none⟩) n cap2) nx ⟨nds rs,nx⟩) (TAns.fin9 ((HM5.1.put 2 rfl 0 _ (by simp)).put 2 rfl 1 _ (by simp)) 2 rfl ((HN5.1.setBox _ 0 _ hsw.1).setBox _ 1 _ hsw.1) HR2.1.2 hsw0.1) ?_;rintro W8 ⟨r0,r1,hans,hbel⟩;refine bodyPost_ret (v:=.tuple #[.agg #[.slice (some ⟨g2,0,none⟩) n cap2,.int .i64 nx],.int .i64 8]) (by simp [results,Tryz.results45,go_sem,r0,r1]) rfl ⟨_,by rw [HXX.1],by rw [HXX.1];exact hans,hbel⟩
 have b100:(nx==100000)=false:=by simp [h100]
 have HX4:Sh (R=if tk=false then (⟨nds rs,nx⟩,8) else (⟨nds rs9,nx+1⟩,0)):=⟨by
  rw [HX3.1]
  cases tk with
  | false=>rw [if_pos (.inr (.inr rfl)),if_pos rfl]
  | true=>rw [if_neg (by simp [h14,h100]),if_neg (by simp)]⟩
 clear h14 h100 HX3;go_upto_if 82 with (go_at_call 42;refine HOK.1.mono ?_;rintro e w11 ⟨rfl,hb10⟩;replace HM5:=zS (HM5.1.below hb10);replace HN5:=zS (HN5.1.below hb10);replace HP5:=zS (HP5.1.below hb10);clear hb10 n0 n1 x0 x1 z0 zf0 z1 zf1 q0 qf0 q1 qf1)
 obtain ⟨n0,n1⟩:=bwb2 ((HM5.1.at 0 rfl).1);obtain ⟨z0,zf0,z1,zf1⟩:=bwc2 ((HM5.1.at 1 rfl).1);obtain ⟨q0,qf0,q1,qf1⟩:=bwc2 ((HM5.1.at 2 rfl).1)
 cases tk with
 | false =>
  have HXX:Sh (R=(⟨nds rs,nx⟩,8)):=⟨by rw [HX4.1];rfl⟩;go_wp2_with fail;refine qad (fun W=>FinT w W (w.heap.size+1+1) (.slice (some ⟨g2,0,none⟩) n cap2) nx ⟨nds rs,nx⟩) (TAns.fin9 ((HM5.1.put 2 rfl 0 _ (by simp)).put 2 rfl 1 _ (by simp)) 2 rfl ((HN5.1.setBox _ 0 _ hsw.1).setBox _ 1 _ hsw.1) HR2.1.2 hsw0.1) ?_;rintro W8 ⟨r0,r1,hans,hbel⟩;refine bodyPost_ret (v:=.tuple #[.agg #[.slice (some ⟨g2,0,none⟩) n cap2,.int .i64 nx],.int .i64 8]) (by simp [results,Tryz.results45,go_sem,r0,r1]) rfl ⟨_,by rw [HXX.1],by rw [HXX.1];exact hans,hbel⟩
 | true =>
  have HXX:Sh (R=(⟨nds rs9,nx+1⟩,0)):=⟨by rw [HX4.1];rfl⟩;go_wp2_with fail;refine qad (fun W=>FinT w W (w.heap.size+1+1) (.slice (some ⟨ng,0,none⟩) (n+1) ncap) (nx+1) ⟨nds rs9,nx+1⟩) (TAns.fin9 ((HM5.1.put 2 rfl 0 _ (by simp)).put 2 rfl 1 _ (by simp)) 2 rfl ((HP5.1.setBox _ 0 _ hz1.1.2.1).setBox _ 1 _ hz1.1.2.1) rfl (by have:=hz1.1;omega)) ?_;rintro W8 ⟨r0,r1,hans,hbel⟩;refine bodyPost_ret (v:=.tuple #[.agg #[.slice (some ⟨ng,0,none⟩) (n+1) ncap,.int .i64 (nx+1)],.int .i64 0]) (by simp [results,Tryz.results45,go_sem,r0,r1]) rfl ⟨_,by rw [HXX.1],by rw [HXX.1];exact hans,hbel⟩
end
end Go.Proofs.YtackbhpgdohimaaGreatDoor
