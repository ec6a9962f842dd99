/- Texts of ours, laid one behind the other: ApC. -/
import Derived.Test.YtackbhpgdohimaaGreatDoorQkApB
import Derived.Test.YtackbhpgdohimaaGreatDoorQk8
import Derived.Deep.RegionHeld3
/- ApC: . -/
namespace Go.Proofs.YtackbhpgdohimaaGreatDoor
set_option maxRecDepth 100000
set_option maxHeartbeats 16000000
open Go.RowKit
attribute [local go_sem ↓] Go.wp_at_zero Go.wp_at_succ
section
open BigFrame
theorem specMove {w:World} {v:Value} {T:TM} {lo hi:Nat} (e:EM) (id:Int) (k:Nat) (h:TSee w v T lo hi) (hf:NFit T) (hp:e.dest.size<=1048576) (hk:k<T.nodes.length) (hid:atI T.nodes id=(k:Int)) (hfm:NFit (moveT T e.dest id)):Calls Tryz.prog 47 #[v,ev e,.int .i64 id] w fun r w'=>qja (moveX T e.dest id) w r w':=by
 have hl:T.nodes.length<=1048576:=by unfold NFit at hf;omega
 have HU:=zS (fun (W:World) (hb:Below w.heap.size w W)=>qco (qab e.dest).1 (h.below hb) hf (Nat.le_trans (qbf e.dest).1 (by omega)));have HF:=zS (fun (W:World) (hb:Below w.heap.size w W)=>qco e.dest (h.below hb) hf hp);have HAT:=zS (fun (i:Int) (W:World) (hb:Below w.heap.size w W)=>qgd i (h.below hb) hl);have HBL:=zS (fun (i j:Int) (W:World) (hb:Below w.heap.size w W)=>qld i j (h.below hb) hf);have HPP:=zS (fun (W:World)=>qeq e.dest W hp);unfold qfj at HPP;have HCP:=zS (fun (W:World) (n:Nat) (hn:n=T.nodes.length) (hb:Below w.heap.size w W)=>qfp (h.below hb) hf hn);have hft:=@qlg T (qab e.dest).1;have HX:Sh (moveX T e.dest id=if upX T e.dest=0 then (T,1) else if (ndAt T (plc T (upX T e.dest))).dir=false then (T,3) else if findX T e.dest ≠ 0 then (T,2) else if qal T.nodes 15 (upX T e.dest) id=true then (T,7) else if qae (moveT T e.dest id)=false then (T,8) else (moveT T e.dest id,0)):=⟨rfl⟩;have HMT:Sh (moveT T e.dest id=setN T k { ndAt T k with parent:=upX T e.dest,name:=(qab e.dest).2.1 }):=⟨by unfold moveT plc;rw [hid];rfl⟩;have HFM:=zS hfm;have HUP:Sh (upX T e.dest=findX T (qab e.dest).1):=⟨rfl⟩;rw [<-HUP.1] at hft;simp only [<-HUP.1] at HU;generalize moveX T e.dest id=R at HX ⊢;obtain ⟨TO,hTO⟩:∃ q,q=moveT T e.dest id:=⟨_,rfl⟩;rw [<-hTO] at HX HMT HFM;generalize upX T e.dest=up at HU HX HMT hft;generalize findX T e.dest=f2 at HF HX;clear hTO hfm HUP;obtain ⟨a,cap,rs,rfl,hr,hm⟩:=h;obtain ⟨nodes,nx⟩:=T;dsimp only at *;subst hr;have hkr:k<rs.length:=by rw [qaf] at hk;exact hk
 obtain ⟨b,off,rfl,lb,-⟩:=qnc hm k hkr
 have HALL:Sh (∀ j (hj:j<rs.length),NAt w b (off+j*9) rs[j]):=⟨fun j hj=>by
  obtain ⟨b',off',e',-,hc⟩:=TR.nat hm (by omega);cases e'
  exact hc j hj⟩
 have HRE:Sh (∃ r,rs[k]?=some r):=⟨rs[k],by simp [hkr]⟩;obtain ⟨n,hn⟩:∃ n,n=rs.length:=⟨_,rfl⟩;have hkn:k<n:=by omega
 have hn':n<=1048576:=by rw [qaf] at hl;omega
 rw [<-hn] at HU HF HAT HBL HCP ⊢;have HN:=zS hn;have HID:=zS hid;have HFT:=zS hft;clear hk hn hm hf hl hkr hp hid hft;obtain ⟨kind,path,dest,num,who⟩:=e;dsimp only at *;obtain ⟨P1,hP1⟩:∃ q,q=(qab dest).1:=⟨_,rfl⟩;obtain ⟨nm,hnm⟩:∃ q,q=(qab dest).2.1:=⟨_,rfl⟩;obtain ⟨okp,hokp⟩:∃ q,q=(qab dest).2.2:=⟨_,rfl⟩;rw [<-hP1,<-hnm,<-hokp] at HPP;rw [<-hP1] at HU;rw [<-hnm] at HMT;clear hP1 hnm hokp;have k0:(0:Int)<=(k:Int):=by omega
 have k1:(k:Int)<(n:Int):=by omega
 go_enter Tryz.func47,Tryz.ntmps47;go_upto_region 1 with fail;refine qaa (fun W=>MB w W [(w.heap.size+1+1,[.slice none 0 0,.int .i64 0]),(w.heap.size+1,qbg ⟨kind,path,dest,num,who⟩),(w.heap.size,[.slice (some ⟨b,off,none⟩) n cap,.int .i64 nx])]) (MB.three w _ _ _ _ _ _) ?_;intro W0 hM;have HM:=zS hM;clear hM;obtain ⟨x0,x1⟩:=bwb2 ((HM.1.at 2 rfl).1);have hsw:=zS (HM.1.at 0 rfl).1.1;have hsw0:=zS HM.1.bel.size;have HC:=zS (HCP.1 W0 n (by rw [qaf];exact HN.1) HM.1.bel);go_upto_region 2 with (go_at_call 40;refine HC.1.mono ?_;rintro e w1 ⟨a2,cap2,rs2,rfl,hl2,hr2,hnb,hb1⟩;have HR2:=zS (And.intro hl2 hr2);have HNB:=zS hnb;replace HM:=zS (HM.1.below hb1);have HB1:=zS hb1;clear hl2 hr2 hnb hb1 x0 x1);obtain ⟨g2,rfl,hg2,hg2',-⟩:=HNB.1.blk HR2.1.1 (by omega);clear hg2 hg2';refine qaa (fun W=>MB w W [(w1.heap.size,[.slice (some ⟨g2,0,none⟩) n cap2,.int .i64 nx]),(w.heap.size+1+1,[.slice none 0 0,.int .i64 0]),(w.heap.size+1,qbg ⟨kind,path,dest,num,who⟩),(w.heap.size,[.slice (some ⟨b,off,none⟩) n cap,.int .i64 nx])]/\NB W W0.heap.size (.slice (some ⟨g2,0,none⟩) n cap2) rs2) ⟨HM.1.new _ _,HNB.1.below (zB.alloc zL _)⟩ ?_;rintro W1 ⟨hM1,hN1⟩;have HM1:=zS hM1;have HN1:=zS hN1;clear hM1 hN1 HM HNB HC;obtain ⟨x0,x1⟩:=bwb2 ((HM1.1.at 3 rfl).1);have y2:=((HM1.1.at 2 rfl).1.2 2 _ rfl).1;obtain ⟨z0,zf0,z1,zf1⟩:=bwc2 ((HM1.1.at 0 rfl).1);obtain ⟨q0,qf0,q1,qf1⟩:=bwc2 ((HM1.1.at 1 rfl).1);dsimp only at y2
 go_upto_region 4 with (first
  | (go_at_call 85;refine (HPP.1 _).mono ?_;rintro e w2 ⟨rfl,hb2⟩;replace HM1:=zS (HM1.1.below hb2);replace HN1:=zS (HN1.1.below hb2);clear x0 x1 y2 z0 zf0 z1 zf1 q0 qf0 q1 qf1 hb2;have x0:=((HM1.1.at 3 rfl).1.2 0 _ rfl).1;have x1:=((HM1.1.at 3 rfl).1.2 1 _ rfl).1;have y2:=((HM1.1.at 2 rfl).1.2 2 _ rfl).1;obtain ⟨z0,zf0⟩:=(HM1.1.at 0 rfl).1.2 0 _ rfl;obtain ⟨z1,zf1⟩:=(HM1.1.at 0 rfl).1.2 1 _ rfl;obtain ⟨q0,qf0⟩:=(HM1.1.at 1 rfl).1.2 0 _ rfl;obtain ⟨q1,qf1⟩:=(HM1.1.at 1 rfl).1.2 1 _ rfl;dsimp only at y2)
  | (go_at_call 46;refine (HU.1 _ HM1.1.bel).mono ?_;rintro e w3 ⟨rfl,hb3⟩;replace HM1:=zS (HM1.1.below hb3);replace HN1:=zS (HN1.1.below hb3);clear x0 x1 y2 z0 zf0 z1 zf1 q0 qf0 q1 qf1 hb3;have x0:=((HM1.1.at 3 rfl).1.2 0 _ rfl).1;have x1:=((HM1.1.at 3 rfl).1.2 1 _ rfl).1;have y2:=((HM1.1.at 2 rfl).1.2 2 _ rfl).1;obtain ⟨z0,zf0⟩:=(HM1.1.at 0 rfl).1.2 0 _ rfl;obtain ⟨z1,zf1⟩:=(HM1.1.at 0 rfl).1.2 1 _ rfl;obtain ⟨q0,qf0⟩:=(HM1.1.at 1 rfl).1.2 0 _ rfl;obtain ⟨q1,qf1⟩:=(HM1.1.at 1 rfl).1.2 1 _ rfl;dsimp only at y2))
 by_cases hup:up=0
 ·have b0:(up==0)=true:=by simp [hup]
  have HXX:Sh (R=(⟨nds rs,nx⟩,1)):=⟨by rw [HX.1,if_pos hup]⟩;clear hup;go_wp2_with fail;refine qad (fun W=>FinT w W (w.heap.size+1+1) (.slice (some ⟨g2,0,none⟩) n cap2) nx ⟨nds rs,nx⟩) (TAns.fin9 ((HM1.1.put 1 rfl 0 _ (by simp)).put 1 rfl 1 _ (by simp)) 1 rfl ((HN1.1.setBox _ 0 _ hsw.1).setBox _ 1 _ hsw.1) HR2.1.2 hsw0.1) ?_;rintro W8 ⟨r0,r1,hans,hbel⟩;refine bodyPost_ret (v:=.tuple #[.agg #[.slice (some ⟨g2,0,none⟩) n cap2,.int .i64 nx],.int .i64 1]) (by simp [results,Tryz.results47,go_sem,r0,r1]) rfl ⟨_,by rw [HXX.1],by rw [HXX.1];exact hans,hbel⟩
 have b0:(up==0)=false:=by simp [hup]
 obtain ⟨ku,hku,hau,-⟩:=HFT.1 hup;have hkur:ku<rs.length:=by rw [qaf] at hku;exact hku
 have HAU:Sh (atI (nds rs) up=(ku:Int)):=⟨hau⟩;have HNU:=zS (HALL.1 ku hkur)
 have HDU:Sh ((ndAt ⟨nds rs,nx⟩ (plc ⟨nds rs,nx⟩ up)).dir=(rs[ku]).nd.dir):=⟨by
  have e1:plc ⟨nds rs,nx⟩ up=ku:=by unfold plc;dsimp only;rw [hau];rfl
  rw [e1]
  simp [ndAt,nds,List.getD,hkur]⟩
 obtain ⟨ru,hru⟩:∃ r,r=rs[ku]:=⟨_,rfl⟩;rw [<-hru] at HNU HDU;have hkun:ku<n:=by have:=HN.1;omega
 clear hru hau hku hkur;obtain ⟨du,hdu⟩:∃ d,d=ru.nd.dir:=⟨_,rfl⟩;rw [<-hdu] at HDU;have HDD:=zS hdu;clear hdu;have HX2:Sh (R=if du=false then (⟨nds rs,nx⟩,3) else if f2 ≠ 0 then (⟨nds rs,nx⟩,2) else if qal (nds rs) 15 up id=true then (⟨nds rs,nx⟩,7) else if qae TO=false then (⟨nds rs,nx⟩,8) else (TO,0)):=⟨by rw [HX.1,if_neg hup,HDU.1]⟩;have ku0:(0:Int)<=(ku:Int):=by omega
 have ku1:(ku:Int)<(n:Int):=by omega
 clear hup HX HDU;go_upto_region 6 with fail
 have HLE:Sh (∀ x,Later w3.drew x->x.cell? ⟨w.heap.size,0,none⟩=some (.slice (some ⟨b,off,none⟩) n cap)/\x.cell? ⟨w.heap.size,1,none⟩=some (.int .i64 nx)/\x.cell? ⟨b,off+ku*9+3,none⟩=some (.bool du)):=⟨fun x hx=>by
  have hb:Below w3.heap.size w3 x:=Below.trans zD hx;have M:=HM1.1.below hb;obtain ⟨-,-,-,c3,-⟩:=HNU.1.below M.bel lb;rw [<-HDD.1] at c3
  exact ⟨((M.at 3 rfl).1.2 0 _ rfl).1,((M.at 3 rfl).1.2 1 _ rfl).1,c3⟩⟩
 have HBX:Sh (∀ x,Later w3.drew x->Below w.heap.size w x):=⟨fun x hx=>HM1.1.bel.trans ((Below.trans zD hx:Below w3.heap.size w3 x).mono HM1.1.bel.size)⟩;have HA2:=zS (fun (x:World) (hx:Below w.heap.size w x)=>HAT.1 up x hx);rw [HAU.1] at HA2;refine qar (by kernel_rfl) ?_;refine wpL_v 0 rfl (fun x hx=>by obtain ⟨d0,d1,d2⟩:=HLE.1 x hx;go_simp;try with_reducible rfl) ?_
 try simp only [Act.put,qA,qB,qC]
 refine wpL_v 1 rfl (fun x hx=>by obtain ⟨d0,d1,d2⟩:=HLE.1 x hx;go_simp;try with_reducible rfl) ?_
 try simp only [Act.put,qA,qB,qC]
 refine wpL_v 2 rfl (fun x hx=>by obtain ⟨d0,d1,d2⟩:=HLE.1 x hx;go_simp;try with_reducible rfl) ?_
 try simp only [Act.put,qA,qB,qC]
 refine wpL_v 3 rfl (fun x hx=>by obtain ⟨d0,d1,d2⟩:=HLE.1 x hx;go_simp;try with_reducible rfl) ?_
 try simp only [Act.put,qA,qB,qC]
 refine qcq (i:=4) (v:=.int .i64 (ku:Nat)) (f:=50) (args:=#[.agg #[.slice (some ⟨b,off,none⟩) n cap,.int .i64 nx],.int .i64 up]) rfl (by kernel_rfl) (by kernel_rfl) (by kernel_rfl) (fun _ _ _ h=>h) (by rfl) ?hya4 (fun x hx=>HA2.1 x (HBX.1 x hx)) ?resta4
 case hya4=>(intro x hx;obtain ⟨d0,d1,d2⟩:=HLE.1 x hx;go_simp;try with_reducible rfl)
 try simp only [Act.put,qA,qB,qC]
 refine wpL_v 5 rfl (fun x hx=>by obtain ⟨d0,d1,d2⟩:=HLE.1 x hx;go_simp;try with_reducible rfl) ?_
 try simp only [Act.put,qA,qB,qC]
 refine wpL_v 6 rfl (fun x hx=>by obtain ⟨d0,d1,d2⟩:=HLE.1 x hx;go_simp;try with_reducible rfl) ?_
 try simp only [Act.put,qA,qB,qC]
 refine wpL_v 7 rfl (fun x hx=>by obtain ⟨d0,d1,d2⟩:=HLE.1 x hx;go_simp;try with_reducible rfl) ?_
 try simp only [Act.put,qA,qB,qC]
 refine wpL_v 8 rfl (fun x hx=>by obtain ⟨d0,d1,d2⟩:=HLE.1 x hx;go_simp;try with_reducible rfl) ?_
 try simp only [Act.put,qA,qB,qC]
 refine qdd (by kernel_rfl) ?_ _;intro W4 hy;have HB9:=(Below.trans zD hy:Below w3.heap.size w3 W4);replace HM1:=zS (HM1.1.below HB9);replace HN1:=zS (HN1.1.below HB9);clear x0 x1 y2 z0 zf0 z1 zf1 q0 qf0 q1 qf1 HB9;obtain ⟨x0,x1⟩:=bwb2 ((HM1.1.at 3 rfl).1);have y2:=((HM1.1.at 2 rfl).1.2 2 _ rfl).1;obtain ⟨z0,zf0,z1,zf1⟩:=bwc2 ((HM1.1.at 0 rfl).1);obtain ⟨q0,qf0,q1,qf1⟩:=bwc2 ((HM1.1.at 1 rfl).1);dsimp only at y2;clear hy HLE HBX HA2
 cases du with
 | false =>
  have HXX:Sh (R=(⟨nds rs,nx⟩,3)):=⟨by rw [HX2.1];rfl⟩;go_wp2_with fail;refine qad (fun W=>FinT w W (w.heap.size+1+1) (.slice (some ⟨g2,0,none⟩) n cap2) nx ⟨nds rs,nx⟩) (TAns.fin9 ((HM1.1.put 1 rfl 0 _ (by simp)).put 1 rfl 1 _ (by simp)) 1 rfl ((HN1.1.setBox _ 0 _ hsw.1).setBox _ 1 _ hsw.1) HR2.1.2 hsw0.1) ?_;rintro W8 ⟨r0,r1,hans,hbel⟩;refine bodyPost_ret (v:=.tuple #[.agg #[.slice (some ⟨g2,0,none⟩) n cap2,.int .i64 nx],.int .i64 3]) (by simp [results,Tryz.results47,go_sem,r0,r1]) rfl ⟨_,by rw [HXX.1],by rw [HXX.1];exact hans,hbel⟩
 | true =>
 go_upto_if 43 with (go_at_call 46;refine (HF.1 _ HM1.1.bel).mono ?_;rintro e w5 ⟨rfl,hb5⟩;replace HM1:=zS (HM1.1.below hb5);replace HN1:=zS (HN1.1.below hb5);clear x0 x1 y2 z0 zf0 z1 zf1 q0 qf0 q1 qf1 hb5;have x0:=((HM1.1.at 3 rfl).1.2 0 _ rfl).1;have x1:=((HM1.1.at 3 rfl).1.2 1 _ rfl).1;have y2:=((HM1.1.at 2 rfl).1.2 2 _ rfl).1;obtain ⟨z0,zf0⟩:=(HM1.1.at 0 rfl).1.2 0 _ rfl;obtain ⟨z1,zf1⟩:=(HM1.1.at 0 rfl).1.2 1 _ rfl;obtain ⟨q0,qf0⟩:=(HM1.1.at 1 rfl).1.2 0 _ rfl;obtain ⟨q1,qf1⟩:=(HM1.1.at 1 rfl).1.2 1 _ rfl;dsimp only at y2)
 by_cases hf2:f2=0
 case neg =>
  have b2:(f2 != 0)=true:=by simp [hf2]
  have HXX:Sh (R=(⟨nds rs,nx⟩,2)):=⟨by rw [HX2.1,if_neg (by simp),if_pos hf2]⟩;clear hf2;go_wp2_with fail;refine qad (fun W=>FinT w W (w.heap.size+1+1) (.slice (some ⟨g2,0,none⟩) n cap2) nx ⟨nds rs,nx⟩) (TAns.fin9 ((HM1.1.put 1 rfl 0 _ (by simp)).put 1 rfl 1 _ (by simp)) 1 rfl ((HN1.1.setBox _ 0 _ hsw.1).setBox _ 1 _ hsw.1) HR2.1.2 hsw0.1) ?_;rintro W8 ⟨r0,r1,hans,hbel⟩;refine bodyPost_ret (v:=.tuple #[.agg #[.slice (some ⟨g2,0,none⟩) n cap2,.int .i64 nx],.int .i64 2]) (by simp [results,Tryz.results47,go_sem,r0,r1]) rfl ⟨_,by rw [HXX.1],by rw [HXX.1];exact hans,hbel⟩
 have b2:(f2 != 0)=false:=by simp [hf2]
 have HX3:Sh (R=if qal (nds rs) 15 up id=true then (⟨nds rs,nx⟩,7) else if qae TO=false then (⟨nds rs,nx⟩,8) else (TO,0)):=⟨by rw [HX2.1,if_neg (by simp),if_neg (by simp [hf2])]⟩;clear hf2 HX2;obtain ⟨bl,hbl⟩:∃ q,q=qal (nds rs) 15 up id:=⟨_,rfl⟩;have HB3:=zS (fun (x:World) (hx:Below w.heap.size w x)=>HBL.1 up id x hx);rw [<-hbl] at HB3 HX3;clear hbl;go_upto_if 48 with (go_at_call 88;refine (HB3.1 _ HM1.1.bel).mono ?_;rintro e w6 ⟨rfl,hb6⟩;replace HM1:=zS (HM1.1.below hb6);replace HN1:=zS (HN1.1.below hb6);clear x0 x1 y2 z0 zf0 z1 zf1 q0 qf0 q1 qf1 hb6;have x0:=((HM1.1.at 3 rfl).1.2 0 _ rfl).1;have x1:=((HM1.1.at 3 rfl).1.2 1 _ rfl).1;have y2:=((HM1.1.at 2 rfl).1.2 2 _ rfl).1;obtain ⟨z0,zf0⟩:=(HM1.1.at 0 rfl).1.2 0 _ rfl;obtain ⟨z1,zf1⟩:=(HM1.1.at 0 rfl).1.2 1 _ rfl;obtain ⟨q0,qf0⟩:=(HM1.1.at 1 rfl).1.2 0 _ rfl;obtain ⟨q1,qf1⟩:=(HM1.1.at 1 rfl).1.2 1 _ rfl;dsimp only at y2)
 cases bl with
 | true =>
  have HXX:Sh (R=(⟨nds rs,nx⟩,7)):=⟨by rw [HX3.1];rfl⟩;go_wp2_with fail;refine qad (fun W=>FinT w W (w.heap.size+1+1) (.slice (some ⟨g2,0,none⟩) n cap2) nx ⟨nds rs,nx⟩) (TAns.fin9 ((HM1.1.put 1 rfl 0 _ (by simp)).put 1 rfl 1 _ (by simp)) 1 rfl ((HN1.1.setBox _ 0 _ hsw.1).setBox _ 1 _ hsw.1) HR2.1.2 hsw0.1) ?_;rintro W8 ⟨r0,r1,hans,hbel⟩;refine bodyPost_ret (v:=.tuple #[.agg #[.slice (some ⟨g2,0,none⟩) n cap2,.int .i64 nx],.int .i64 7]) (by simp [results,Tryz.results47,go_sem,r0,r1]) rfl ⟨_,by rw [HXX.1],by rw [HXX.1];exact hans,hbel⟩
 | false =>
 have HX4:Sh (R=if qae TO=false then (⟨nds rs,nx⟩,8) else (TO,0)):=⟨by rw [HX3.1];rfl⟩;have HC3:=zS (HCP.1 w6 n (by rw [qaf];exact HN.1) HM1.1.bel);have hz1:=zS (And.intro (HM1.1.at 0 rfl).1.1 (And.intro (HM1.1.at 1 rfl).1.1 (HN1.1.own.lt g2 rfl).2));go_upto_region 13 with (go_at_call 40;refine HC3.1.mono ?_;rintro e w7 ⟨a3,cap3,rs3,rfl,hl3,hr3,hnb3,hb7⟩;have HR3:=zS (And.intro hl3 hr3);have HNB3:=zS hnb3;have hs67:=zS hb7.size;clear hl3 hr3 hnb3;replace HM1:=zS (HM1.1.below hb7);replace HN1:=zS (HN1.1.below hb7);clear x0 x1 y2 z0 zf0 z1 zf1 q0 qf0 q1 qf1 hb7;have x0:=((HM1.1.at 3 rfl).1.2 0 _ rfl).1;have x1:=((HM1.1.at 3 rfl).1.2 1 _ rfl).1;have y2:=((HM1.1.at 2 rfl).1.2 2 _ rfl).1;obtain ⟨z0,zf0⟩:=(HM1.1.at 0 rfl).1.2 0 _ rfl;obtain ⟨z1,zf1⟩:=(HM1.1.at 0 rfl).1.2 1 _ rfl;obtain ⟨q0,qf0⟩:=(HM1.1.at 1 rfl).1.2 0 _ rfl;obtain ⟨q1,qf1⟩:=(HM1.1.at 1 rfl).1.2 1 _ rfl;dsimp only at y2);obtain ⟨g3,rfl,hg3,hg3',-⟩:=HNB3.1.blk HR3.1.1 (by omega);refine qaa (fun W=>MB w W [(w7.heap.size,[.slice (some ⟨g3,0,none⟩) n cap3,.int .i64 nx]),(w1.heap.size,[.slice (some ⟨g2,0,none⟩) n cap2,.int .i64 nx]),(w.heap.size+1+1,[.slice none 0 0,.int .i64 0]),(w.heap.size+1,qbg ⟨kind,path,dest,num,who⟩),(w.heap.size,[.slice (some ⟨b,off,none⟩) n cap,.int .i64 nx])]/\NB W W0.heap.size (.slice (some ⟨g2,0,none⟩) n cap2) rs2/\NB W w6.heap.size (.slice (some ⟨g3,0,none⟩) n cap3) rs3) ⟨HM1.1.new _ _,HN1.1.below (zB.alloc zL _),HNB3.1.below (zB.alloc zL _)⟩ ?_;rintro W5 ⟨hM5,hN5,hP5⟩;clear x0 x1 y2 z0 zf0 z1 zf1 q0 qf0 q1 qf1;have HM5:=zS hM5;have HN5:=zS hN5;have HP5:=zS hP5;have HG3:=zS (And.intro hg3 hg3');clear hM5 hN5 hP5 HM1 HN1 HNB3 HC3 hg3 hg3' HX3;obtain ⟨rk,hrk⟩:=HRE.1;obtain ⟨loc3,cp3,hd3⟩:=qpk HR3.1.2 hrk;have HD3:=zS hd3
 have HMT2:Sh (TO=setN ⟨nds rs,nx⟩ k { rk.nd with parent:=up,name:=nm }):=⟨by
  rw [HMT.1];have e1:ndAt ⟨nds rs,nx⟩ k=rk.nd:=by simp [ndAt,nds,List.getD,hrk]
  rw [e1]⟩
 clear hrk hd3 HMT;obtain ⟨⟨id9,parent9,name9,dir9,schema9,quota9,len9,pieces9,writer9⟩,loc9,cp9⟩:=rk;dsimp only at *;have HA3:=zS (fun (x:World) (hx:Below w.heap.size w x)=>HAT.1 id x hx);rw [HID.1] at HA3;have ne1:¬ (g3=w7.heap.size):=by have:=HG3.1;omega
 have ne2:¬ (w7.heap.size=g3):=by have:=HG3.1;omega
 have ne3:¬ (g3=w.heap.size):=by have:=HG3.1;have:=hz1.1;omega
 have ne4:¬ (w.heap.size=g3):=by have:=HG3.1;have:=hz1.1;omega
 have HGB:Sh (∀ (W:World) (i:Nat) (x:Value),MB w W [(w7.heap.size,[.slice (some ⟨g3,0,none⟩) n cap3,.int .i64 nx]),(w1.heap.size,[.slice (some ⟨g2,0,none⟩) n cap2,.int .i64 nx]),(w.heap.size+1+1,[.slice none 0 0,.int .i64 0]),(w.heap.size+1,qbg ⟨kind,path,dest,num,who⟩),(w.heap.size,[.slice (some ⟨b,off,none⟩) n cap,.int .i64 nx])]->MB w (W.setCell ⟨g3,i,none⟩ x) [(w7.heap.size,[.slice (some ⟨g3,0,none⟩) n cap3,.int .i64 nx]),(w1.heap.size,[.slice (some ⟨g2,0,none⟩) n cap2,.int .i64 nx]),(w.heap.size+1+1,[.slice none 0 0,.int .i64 0]),(w.heap.size+1,qbg ⟨kind,path,dest,num,who⟩),(w.heap.size,[.slice (some ⟨b,off,none⟩) n cap,.int .i64 nx])]):=⟨fun W i x M=>M.far (qam W g3 i x) (fun p hp=>by
  have h1:=HG3.1;have h2:=hz1.1;have h3:=hs67.1;simp only [List.mem_cons,List.not_mem_nil,or_false] at hp
  rcases hp with rfl | rfl | rfl | rfl | rfl <;> simp <;> omega) (fun q hq=>by cases hq;have:=HG3.1;have:=hz1.1;omega)⟩
 obtain ⟨n0,n1⟩:=bwb2 ((HM5.1.at 0 rfl).1);obtain ⟨x0,x1⟩:=bwb2 ((HM5.1.at 4 rfl).1);have lt7:=(HM5.1.at 0 rfl).1.1;have lt0:=(HM5.1.at 4 rfl).1.1;go_region_held3 (fun w'=>w'.cell? ⟨w7.heap.size,0,none⟩=some (.slice (some ⟨g3,0,none⟩) n cap3)/\w'.cell? ⟨w.heap.size,0,none⟩=some (.slice (some ⟨b,off,none⟩) n cap)/\w'.cell? ⟨w.heap.size,1,none⟩=some (.int .i64 nx)) (first | go_keep | (rw [hw8.cell (p:=⟨w7.heap.size,0,none⟩) lt7,hw8.cell (p:=⟨w.heap.size,0,none⟩) lt0,hw8.cell (p:=⟨w.heap.size,1,none⟩) lt0];assumption)) ((go_at_call 50;refine (HA3.1 _ HM5.1.bel.drew).mono ?_;rintro e w8 ⟨rfl,hw8⟩;have hb9:=zS (Below.trans zD hw8:Below W5.heap.size W5 w8);have hm1:=zS ((HP5.1.below hb9.1).cellK HR3.1.1 HD3.1 1 _ rfl);obtain ⟨m1,mf1⟩:=hm1.1;dsimp only at m1))
 go_upto_region 14 with fail;refine qaa (fun W=>MB w W [(w7.heap.size,[.slice (some ⟨g3,0,none⟩) n cap3,.int .i64 nx]),(w1.heap.size,[.slice (some ⟨g2,0,none⟩) n cap2,.int .i64 nx]),(w.heap.size+1+1,[.slice none 0 0,.int .i64 0]),(w.heap.size+1,qbg ⟨kind,path,dest,num,who⟩),(w.heap.size,[.slice (some ⟨b,off,none⟩) n cap,.int .i64 nx])]/\NB W W0.heap.size (.slice (some ⟨g2,0,none⟩) n cap2) rs2/\NB W w6.heap.size (.slice (some ⟨g3,0,none⟩) n cap3) (rs3.set k ⟨⟨id9,up,name9,dir9,schema9,quota9,len9,pieces9,writer9⟩,loc3,cp3⟩)) ⟨HGB.1 _ _ _ (HM5.1.below hb9.1),?_,(HP5.1.below hb9.1).putK HR3.1.1 HD3.1 1 (by omega) _ _ rfl rfl rfl rfl⟩ ?_
 ·obtain ⟨cur,hcur⟩:=qau (HP5.1.below hb9.1).own (show (Value.slice (some ⟨g3,0,none⟩) n cap3).ownBlock=some g3 from rfl)
  exact (HN5.1.below hb9.1).setOut g3 _ _ hcur (by decide) (by have h1:=HG3.1;have h2:=hz1.1;simp [Value.ownBlock];omega)
 rintro W6 ⟨hM5,hN5,hP5⟩;replace HM5:=zS hM5;replace HN5:=zS hN5;replace HP5:=zS hP5;clear hM5 hN5 hP5 n0 n1 x0 x1 m1 mf1 hm1 hb9 hw8 lt7 lt0
 have HD4:Sh ((rs3.set k ⟨⟨id9,up,name9,dir9,schema9,quota9,len9,pieces9,writer9⟩,loc3,cp3⟩)[k]?=some ⟨⟨id9,up,name9,dir9,schema9,quota9,len9,pieces9,writer9⟩,loc3,cp3⟩):=⟨by
  obtain ⟨hk',-⟩:=List.getElem?_eq_some_iff.1 HD3.1
  rw [List.getElem?_set_self hk']⟩
 have HL4:Sh ((rs3.set k ⟨⟨id9,up,name9,dir9,schema9,quota9,len9,pieces9,writer9⟩,loc3,cp3⟩).length=n):=⟨by rw [List.length_set];exact HR3.1.1⟩;obtain ⟨n0,n1⟩:=bwb2 ((HM5.1.at 0 rfl).1);obtain ⟨x0,x1⟩:=bwb2 ((HM5.1.at 4 rfl).1);have lt7:=(HM5.1.at 0 rfl).1.1;have lt0:=(HM5.1.at 4 rfl).1.1;go_region_held3 (fun w'=>w'.cell? ⟨w7.heap.size,0,none⟩=some (.slice (some ⟨g3,0,none⟩) n cap3)/\w'.cell? ⟨w.heap.size,0,none⟩=some (.slice (some ⟨b,off,none⟩) n cap)/\w'.cell? ⟨w.heap.size,1,none⟩=some (.int .i64 nx)) (first | go_keep | (rw [hw9.cell (p:=⟨w7.heap.size,0,none⟩) lt7,hw9.cell (p:=⟨w.heap.size,0,none⟩) lt0,hw9.cell (p:=⟨w.heap.size,1,none⟩) lt0];assumption)) ((go_at_call 50;refine (HA3.1 _ HM5.1.bel.drew).mono ?_;rintro e w9 ⟨rfl,hw9⟩;have hb9:=zS (Below.trans zD hw9:Below W6.heap.size W6 w9);have hm1:=zS ((HP5.1.below hb9.1).cellK HL4.1 HD4.1 2 _ rfl);obtain ⟨m1,mf1⟩:=hm1.1;dsimp only at m1))
 go_upto_region 15 with fail;refine qaa (fun W=>MB w W [(w7.heap.size,[.slice (some ⟨g3,0,none⟩) n cap3,.int .i64 nx]),(w1.heap.size,[.slice (some ⟨g2,0,none⟩) n cap2,.int .i64 nx]),(w.heap.size+1+1,[.slice none 0 0,.int .i64 0]),(w.heap.size+1,qbg ⟨kind,path,dest,num,who⟩),(w.heap.size,[.slice (some ⟨b,off,none⟩) n cap,.int .i64 nx])]/\NB W W0.heap.size (.slice (some ⟨g2,0,none⟩) n cap2) rs2/\NB W w6.heap.size (.slice (some ⟨g3,0,none⟩) n cap3) ((rs3.set k ⟨⟨id9,up,name9,dir9,schema9,quota9,len9,pieces9,writer9⟩,loc3,cp3⟩).set k ⟨⟨id9,up,nm,dir9,schema9,quota9,len9,pieces9,writer9⟩,loc3,cp3⟩)) ⟨HGB.1 _ _ _ (HM5.1.below hb9.1),?_,(HP5.1.below hb9.1).putK HL4.1 HD4.1 2 (by omega) _ _ rfl rfl rfl rfl⟩ ?_
 ·obtain ⟨cur,hcur⟩:=qau (HP5.1.below hb9.1).own (show (Value.slice (some ⟨g3,0,none⟩) n cap3).ownBlock=some g3 from rfl)
  exact (HN5.1.below hb9.1).setOut g3 _ _ hcur (by decide) (by have h1:=HG3.1;have h2:=hz1.1;simp [Value.ownBlock];omega)
 rintro W7 ⟨hM5,hN5,hP5⟩;replace HM5:=zS hM5;replace HN5:=zS hN5;replace HP5:=zS hP5;clear hM5 hN5 hP5 n0 n1 x0 x1 m1 mf1 hm1 hb9 hw9 lt7 lt0
 have HTO:Sh (nds ((rs3.set k ⟨⟨id9,up,name9,dir9,schema9,quota9,len9,pieces9,writer9⟩,loc3,cp3⟩).set k ⟨⟨id9,up,nm,dir9,schema9,quota9,len9,pieces9,writer9⟩,loc3,cp3⟩)=(setN ⟨nds rs,nx⟩ k ⟨id9,up,nm,dir9,schema9,quota9,len9,pieces9,writer9⟩).nodes):=⟨by
  rw [List.set_set,qfe,HR3.1.2]
  rfl⟩
 rw [<-HMT2.1] at HTO;have HTN:Sh (TO.next=nx):=⟨by rw [HMT2.1];rfl⟩;have HTT:Sh (TO=⟨nds ((rs3.set k ⟨⟨id9,up,name9,dir9,schema9,quota9,len9,pieces9,writer9⟩,loc3,cp3⟩).set k ⟨⟨id9,up,nm,dir9,schema9,quota9,len9,pieces9,writer9⟩,loc3,cp3⟩),nx⟩):=⟨by rw [HTO.1,<-HTN.1]⟩;rw [HTT.1] at HFM HX4;have HOK:=zS (qdy ((HP5.1.fin (nx:=nx)).see) HFM.1);generalize (rs3.set k ⟨⟨id9,up,name9,dir9,schema9,quota9,len9,pieces9,writer9⟩,loc3,cp3⟩).set k ⟨⟨id9,up,nm,dir9,schema9,quota9,len9,pieces9,writer9⟩,loc3,cp3⟩=rs9 at HP5 HTO HTT HFM HX4 HOK;obtain ⟨tk,htk⟩:∃ q,q=qae ⟨nds rs9,nx⟩:=⟨_,rfl⟩;rw [<-htk] at HOK HX4;clear htk HTO HTN HFM HTT HMT2;obtain ⟨n0,n1⟩:=bwb2 ((HM5.1.at 0 rfl).1);go_upto_if 70 with (go_at_call 42;refine HOK.1.mono ?_;rintro e w10 ⟨rfl,hb10⟩;replace HM5:=zS (HM5.1.below hb10);replace HN5:=zS (HN5.1.below hb10);replace HP5:=zS (HP5.1.below hb10);clear hb10 n0 n1)
 obtain ⟨n0,n1⟩:=bwb2 ((HM5.1.at 0 rfl).1);obtain ⟨z0,zf0,z1,zf1⟩:=bwc2 ((HM5.1.at 1 rfl).1);obtain ⟨q0,qf0,q1,qf1⟩:=bwc2 ((HM5.1.at 2 rfl).1)
 cases tk with
 | false =>
  have HXX:Sh (R=(⟨nds rs,nx⟩,8)):=⟨by rw [HX4.1];rfl⟩;go_wp2_with fail;refine qad (fun W=>FinT w W (w.heap.size+1+1) (.slice (some ⟨g2,0,none⟩) n cap2) nx ⟨nds rs,nx⟩) (TAns.fin9 ((HM5.1.put 2 rfl 0 _ (by simp)).put 2 rfl 1 _ (by simp)) 2 rfl ((HN5.1.setBox _ 0 _ hsw.1).setBox _ 1 _ hsw.1) HR2.1.2 hsw0.1) ?_;rintro W8 ⟨r0,r1,hans,hbel⟩;refine bodyPost_ret (v:=.tuple #[.agg #[.slice (some ⟨g2,0,none⟩) n cap2,.int .i64 nx],.int .i64 8]) (by simp [results,Tryz.results47,go_sem,r0,r1]) rfl ⟨_,by rw [HXX.1],by rw [HXX.1];exact hans,hbel⟩
 | true =>
  have HXX:Sh (R=(⟨nds rs9,nx⟩,0)):=⟨by rw [HX4.1];rfl⟩;go_wp2_with fail;refine qad (fun W=>FinT w W (w.heap.size+1+1) (.slice (some ⟨g3,0,none⟩) n cap3) nx ⟨nds rs9,nx⟩) (TAns.fin9 ((HM5.1.put 2 rfl 0 _ (by simp)).put 2 rfl 1 _ (by simp)) 2 rfl ((HP5.1.setBox _ 0 _ hz1.1.2.1).setBox _ 1 _ hz1.1.2.1) rfl (by have:=hz1.1;omega)) ?_;rintro W8 ⟨r0,r1,hans,hbel⟩;refine bodyPost_ret (v:=.tuple #[.agg #[.slice (some ⟨g3,0,none⟩) n cap3,.int .i64 nx],.int .i64 0]) (by simp [results,Tryz.results47,go_sem,r0,r1]) rfl ⟨_,by rw [HXX.1],by rw [HXX.1];exact hans,hbel⟩
end
end Go.Proofs.YtackbhpgdohimaaGreatDoor
