/- Texts of ours, laid one behind the other: ApJ, CtB, ApK, StR, IxA, ChA, ChF, DrEdE, DrTr, ChE. -/
import Derived.Test.YtackbhpgdohimaaGreatDoorQkApI
import Derived.Test.YtackbhpgdohimaaGreatDoorQk8
import Derived.Test.YtackbhpgdohimaaGreatDoorQk9
import Derived.Test.YtackbhpgdohimaaGreatDoorQk7
import Derived.Test.YtackbhpgdohimaaGreatDoorQk4
import Derived.Test.YtackbhpgdohimaaGreatDoorQk5
import Derived.Test.YtackbhpgdohimaaGreatDoorQk10
import Derived.Test.YtackbhpgdohimaaGreatDoorQkStI
import Derived.Deep.RegionHeld3
import Derived.Deep.CutRange
import Derived.Handy
import Derived.Laws.IdiomCopy
/- ApJ: . -/
namespace Go.Proofs.YtackbhpgdohimaaGreatDoor
set_option maxRecDepth 100000
set_option maxHeartbeats 16000000
open Go.RowKit
attribute [local go_sem ↓] Go.wp_at_zero Go.wp_at_succ
section
open BigFrame
variable {hi lo:Nat} {T:TM} {v:Value} {w:World}
theorem apply_add {e:EM} {g:Int} (h7:e.kind=7) (h:(qak T e g).2=0):∃ k,k<T.nodes.length/\atI T.nodes (findX T e.path)=(k:Int)/\(qak T e g).1.nodes.length=T.nodes.length/\(ndAt (qak T e g).1 k).pieces.length<=40/\(ndAt T k).pieces.length<=40/\1<=g/\g<=99000:=by
 unfold qak at h ⊢;split at h
 ·cases h
 ·rename_i hm
  rw [if_neg hm];have hm':mayX T e g=true:=by simpa using hm
  unfold mayX at hm';simp only [Bool.and_eq_true] at hm';have hg:=inI_iff.1 hm'.2;rw [if_neg (by omega),if_neg (by omega),if_neg (by omega)] at h ⊢;split at h
  ·cases h
  ·rename_i hid
   rw [if_neg hid];rw [if_neg (by omega),if_neg (by omega),if_neg (by omega)] at h ⊢;obtain ⟨k,hk,hat,-⟩:=qlg hid;have e1:plc T (findX T e.path)=k:=by unfold plc;rw [hat];rfl
   rw [e1] at h ⊢;have hp:=qbr hm'.1.1 k hk;have hp40:(ndAt T k).pieces.length<=40:=by rw [qev hk];exact hp.2.1
   refine ⟨k,hk,hat,?_⟩;unfold qcd at h ⊢;split at h
   ·cases h
   ·rename_i c1
    rw [if_neg c1];split at h
    ·cases h
    ·rename_i c2
     rw [if_neg c2];rw [if_neg (by omega),if_neg (by omega)] at h ⊢;split at h
     ·cases h
     ·rename_i c3
      rw [if_neg c3];split at h
      ·cases h
      ·rename_i c4
       rw [if_neg c4];refine ⟨by simp [setN],?_,hp40,hg.1,hg.2⟩;unfold ndAt setN;dsimp only;rw [List.getD,List.getElem?_set_self hk];simp only [Option.getD_some,List.length_append,qff];unfold ndAt at c4;omega
theorem TAns.see_form (h:TAns w v T lo hi):∃ (a:Option Addr) (cap:Nat) (rs:List NR),v = .agg #[.slice a rs.length cap,.int .i64 T.next]/\nds rs=T.nodes/\rs.length<=cap/\TR w a rs lo hi:=by
 obtain ⟨a,cap,rs,e,hr,hc,h1⟩:=h;refine ⟨a,cap,rs,e,hr,hc,?_⟩;rcases h1 with rfl | ⟨g,rfl,hm⟩
 ·exact GR.nil _ _ _ _ _
 ·exact hm.gr
theorem MB.two (w:World) (c1 c2:Array Value) (t1 t2:TypeId):MB w ((w.alloc (.cells c1 t1)).alloc (.cells c2 t2)) [(w.heap.size+1,c2.toList),(w.heap.size,c1.toList)]:=by
 have h:=((MB.nil w).new c1 t1).new c2 t2;have e1:(w.alloc (.cells c1 t1)).heap.size=w.heap.size+1:=by simp
 rw [e1] at h;exact h
theorem specGroupsAfter (e:EM) (gr:Int) (h:TSee w v T lo hi) (hf:NFit T) (he:EFit e):Calls Tryz.prog 18 #[v,ev e,.int .i64 gr] w fun r w'=>r = .returned (.int .i64 (qay T e gr))/\Below w.heap.size w w':=by
 have HAP:=zS (fun (W:World) (hb:Below w.heap.size w W)=>qnd e gr (h.below hb) hf he);have HFP:=zS (fun (W:World) (hb:Below w.heap.size w W)=>qco e.path (h.below hb) hf he.1);have hl:T.nodes.length<=1048576:=by unfold NFit at hf;omega
 have HAT:=zS (fun (i:Int) (W:World) (hb:Below w.heap.size w W)=>qgd i (h.below hb) hl);have hadd:=@apply_add T e gr
 have hboot:(qak T e gr).2=0->e.kind=10->1<=gr/\gr<=99000:=fun h0 h1=>by
  unfold qak at h0;split at h0
  ·cases h0
  ·rename_i hm
   have hm':mayX T e gr=true:=by simpa using hm
   unfold mayX at hm';simp only [Bool.and_eq_true] at hm';exact inI_iff.1 hm'.2
 have HX:Sh (qay T e gr=if (qak T e gr).2 ≠ 0 then gr else if e.kind=10 then gr+20 else if e.kind ≠ 7 then gr else gr+(ndAt (qak T e gr).1 (plc T (findX T e.path))).pieces.length - (ndAt T (plc T (findX T e.path))).pieces.length):=⟨rfl⟩;generalize qay T e gr=R at HX ⊢;obtain ⟨RT,rc,hRR⟩:∃ RT rc,qak T e gr=(RT,rc):=⟨_,_,rfl⟩;rw [hRR] at HAP HX hadd hboot;clear hRR;dsimp only at HX hadd hboot;obtain ⟨a,cap,rs,rfl,hr,hm⟩:=h;obtain ⟨nodes,nx⟩:=T;dsimp only at *;subst hr;obtain ⟨n,hn⟩:∃ n,n=rs.length:=⟨_,rfl⟩;rw [<-hn] at HAP HFP HAT ⊢;have HN:=zS hn;have HMR:Sh (TR w a rs lo hi):=⟨hm⟩;have HADD:=zS hadd;have HBOOT:=zS hboot;clear hn hm hf hl he hadd hboot;obtain ⟨kind,path,dest,num,who⟩:=e;dsimp only at *;have HM0:=zS (MB.two w #[.slice a n cap,.int .i64 nx] #[.int .i64 kind,.string path,.string dest,.int .i64 num,.int .i64 who] 37 47);go_enter Tryz.func18,Tryz.ntmps18;go_upto_region 1 with fail;refine qaa (fun W=>MB w W [(w.heap.size+1,qbg ⟨kind,path,dest,num,who⟩),(w.heap.size,[.slice a n cap,.int .i64 nx])]) HM0.1 ?_;intro W0 hM;have HM:=zS hM;clear hM HM0;obtain ⟨x0,x1⟩:=bwb2 ((HM.1.at 1 rfl).1);obtain ⟨y0,y1,y2,y3,y4⟩:=bwb5 ((HM.1.at 0 rfl).1);dsimp only at y0 y1 y2 y3 y4;go_upto_region 2 with (go_at_call 17;refine (HAP.1 _ HM.1.bel).mono ?_;rintro e w2 ⟨vv,rfl,hans,hb2⟩;dsimp only at hans;obtain ⟨a5,c5,rs5,rfl,hr5,-,hq5⟩:=hans.see_form;have HR5:=zS (And.intro hr5 hq5);replace HM:=zS (HM.1.below hb2);clear hans hr5 hq5 hb2 x0 x1 y0 y1 y2 y3 y4);obtain ⟨m5,hm5⟩:∃ m,m=rs5.length:=⟨_,rfl⟩;obtain ⟨t5,ht5⟩:∃ m,m=RT.next:=⟨_,rfl⟩;rw [<-hm5,<-ht5];have HM5:=zS hm5;clear hm5 ht5
 refine qaa (fun W=>MB w W [(w2.heap.size,[.slice a5 m5 c5,.int .i64 t5]),(w.heap.size+1,qbg ⟨kind,path,dest,num,who⟩),(w.heap.size,[.slice a n cap,.int .i64 nx])]/\Below w2.heap.size w2 W) ⟨HM.1.new _ _,zB.alloc zL _⟩ ?_;rintro W1 ⟨hM1,hB1⟩;replace HM:=zS hM1;have HB1:=zS hB1;clear hM1 hB1;have y0:=((HM.1.at 1 rfl).1.2 0 _ rfl).1;dsimp only at y0
 by_cases h0:rc=0
 case neg =>
  have b0:(rc != 0)=true:=by simp [h0]
  have HXX:Sh (R=gr):=⟨by rw [HX.1,if_pos h0]⟩;clear h0;go_wp2_with fail;go_ret;exact ⟨by rw [HXX.1];rfl,HM.1.bel⟩
 have b0:(rc != 0)=false:=by simp [h0]
 by_cases h10:kind=10
 ·have b10:(kind==10)=true:=by simp [h10]
  have hg:=HBOOT.1 h0 h10;have HXX:Sh (R=gr+20):=⟨by rw [HX.1,if_neg (by simp [h0]),if_pos h10]⟩;obtain ⟨g1,g2⟩:=hg;clear h10 h0;go_wp2_with fail;go_ret;exact ⟨by rw [HXX.1];rfl,HM.1.bel⟩
 have b10:(kind==10)=false:=by simp [h10]
 by_cases h7:kind=7
 case neg =>
  have b7:(kind != 7)=true:=by simp [h7]
  have HXX:Sh (R=gr):=⟨by rw [HX.1,if_neg (by simp [h0]),if_neg h10,if_pos h7]⟩;clear h0 h7 h10;go_wp2_with fail;go_ret;exact ⟨by rw [HXX.1];rfl,HM.1.bel⟩
 have b7:(kind != 7)=false:=by simp [h7]
 obtain ⟨k,hk,hat,hlen,hp1,hp2,g1,g2⟩:=HADD.1 h7 h0;have hkr:k<rs.length:=by rw [qaf] at hk;exact hk
 have hk5:k<rs5.length:=by
  have:=HR5.1.1;rw [<-qaf rs5,this,hlen];exact hk
 have e1:plc ⟨nds rs,nx⟩ (findX ⟨nds rs,nx⟩ path)=k:=by unfold plc;dsimp only;rw [hat];rfl
 have n1:ndAt ⟨nds rs,nx⟩ k=rs[k].nd:=by simp [ndAt,nds,List.getD,hkr]
 have n2:ndAt RT k=rs5[k].nd:=by
  unfold ndAt;rw [<-HR5.1.1];simp [nds,List.getD,hk5]
 have HX7:Sh (R=gr+(rs5[k].nd.pieces.length:Nat) - (rs[k].nd.pieces.length:Nat)):=⟨by rw [HX.1,if_neg (by simp [h0]),if_neg h10,if_neg (by simp [h7]),e1,n1,n2]⟩;rw [n2] at hp1;rw [n1] at hp2;obtain ⟨b,off,rfl,lb,hc⟩:=TR.nat HMR.1 (by omega);obtain ⟨b5,off5,rfl,lb5,hc5⟩:=TR.nat HR5.1.2 (by omega);have HC1:=zS (hc k hkr);have HC5:=zS (hc5 k hk5);obtain ⟨r,hr⟩:∃ r,r=rs[k]:=⟨_,rfl⟩;obtain ⟨r5,hr5⟩:∃ r,r=rs5[k]:=⟨_,rfl⟩;rw [<-hr] at HX7 HC1 hp2;rw [<-hr5] at HX7 HC5 hp1;obtain ⟨id,hid⟩:∃ q,q=findX ⟨nds rs,nx⟩ path:=⟨_,rfl⟩;rw [<-hid] at hat;simp only [<-hid] at HFP;have HA2:Sh (∀ (W:World) (hb:Below w.heap.size w W),Calls Tryz.prog 50 #[.agg #[.slice (some ⟨b,off,none⟩) n cap,.int .i64 nx],.int .i64 id] W fun e w'=>e = .returned (.int .i64 (k:Nat))/\Below W.heap.size W w'):=⟨fun W hb=>by have:=HAT.1 id W hb;rw [hat] at this;exact this⟩;have k0:(0:Int)<=(k:Int):=by omega
 have k1:(k:Int)<(n:Int):=by have:=HN.1;omega
 have k2:(k:Int)<(m5:Int):=by have:=HM5.1;omega
 clear hr hr5 hid hat hlen hk e1 n1 n2 h0 h7 h10 hc hc5 HAT HX HADD HBOOT HAP;obtain ⟨⟨id9,parent9,name9,dir9,schema9,quota9,len9,pieces9,writer9⟩,loc9,cp9⟩:=r;obtain ⟨⟨id8,parent8,name8,dir8,schema8,quota8,len8,pieces8,writer8⟩,loc8,cp8⟩:=r5;dsimp only at *;obtain ⟨p9,hp9⟩:∃ q,q=pieces9.length:=⟨_,rfl⟩;obtain ⟨p8,hp8⟩:∃ q,q=pieces8.length:=⟨_,rfl⟩;rw [<-hp9] at HX7 hp2;rw [<-hp8] at HX7 hp1;have HP9:=zS hp9;have HP8:=zS hp8;clear hp9 hp8 hkr hk5;go_upto_region 8 with fail
 have HLE:Sh (∀ x,Later W1.drew x->x.cell? ⟨w.heap.size,0,none⟩=some (.slice (some ⟨b,off,none⟩) n cap)/\x.cell? ⟨w.heap.size,1,none⟩=some (.int .i64 nx)/\x.cell? ⟨w.heap.size+1,1,none⟩=some (.string path)):=⟨fun x hx=>by
  have M:=HM.1.below (Below.trans zD hx)
  exact ⟨((M.at 2 rfl).1.2 0 _ rfl).1,((M.at 2 rfl).1.2 1 _ rfl).1,((M.at 1 rfl).1.2 1 _ rfl).1⟩⟩
 have HBX:Sh (∀ x,Later W1.drew x->Below w.heap.size w x):=⟨fun x hx=>(HM.1.below (Below.trans zD hx)).bel⟩;refine qar (by kernel_rfl) ?_;refine wpL_v 0 rfl (fun x hx=>by obtain ⟨d0,d1,d2⟩:=HLE.1 x hx;go_simp;try with_reducible rfl) ?_
 try simp only [Act.put,qA,qB,qC]
 refine wpL_v 1 rfl (fun x hx=>by obtain ⟨d0,d1,d2⟩:=HLE.1 x hx;go_simp;try with_reducible rfl) ?_
 try simp only [Act.put,qA,qB,qC]
 refine wpL_v 2 rfl (fun x hx=>by obtain ⟨d0,d1,d2⟩:=HLE.1 x hx;go_simp;try with_reducible rfl) ?_
 try simp only [Act.put,qA,qB,qC]
 refine wpL_v 3 rfl (fun x hx=>by obtain ⟨d0,d1,d2⟩:=HLE.1 x hx;go_simp;try with_reducible rfl) ?_
 try simp only [Act.put,qA,qB,qC]
 refine qcq (i:=4) (v:=.int .i64 id) (f:=46) (args:=#[.agg #[.slice (some ⟨b,off,none⟩) n cap,.int .i64 nx],.string path]) rfl (by kernel_rfl) (by kernel_rfl) (by kernel_rfl) (fun _ _ _ h=>h) (by rfl) ?hya4 (fun x hx=>HFP.1 x (HBX.1 x hx)) ?resta4
 case hya4=>(intro x hx;obtain ⟨d0,d1,d2⟩:=HLE.1 x hx;go_simp;try with_reducible rfl)
 try simp only [Act.put,qA,qB,qC]
 refine qcq (i:=5) (v:=.int .i64 (k:Nat)) (f:=50) (args:=#[.agg #[.slice (some ⟨b,off,none⟩) n cap,.int .i64 nx],.int .i64 id]) rfl (by kernel_rfl) (by kernel_rfl) (by kernel_rfl) (fun _ _ _ h=>h) (by rfl) ?hya5 (fun x hx=>HA2.1 x (HBX.1 x hx)) ?resta5
 case hya5=>(intro x hx;obtain ⟨d0,d1,d2⟩:=HLE.1 x hx;go_simp;try with_reducible rfl)
 try simp only [Act.put,qA,qB,qC]
 refine wpL_v 6 rfl (fun x hx=>by obtain ⟨d0,d1,d2⟩:=HLE.1 x hx;go_simp;try with_reducible rfl) ?_
 try simp only [Act.put,qA,qB,qC]
 refine qdd (by kernel_rfl) ?_ _;intro W3 hy;have hb3:=(Below.trans zD hy:Below W1.heap.size W1 W3);replace HM:=zS (HM.1.below hb3);replace HB1:=zS (HB1.1.trans (hb3.mono HB1.1.size));clear hb3 hy HLE HBX y0;go_upto_region 9 with fail
 have HLE:Sh (∀ x,Later W3.drew x->x.cell? ⟨w.heap.size,0,none⟩=some (.slice (some ⟨b,off,none⟩) n cap)/\x.cell? ⟨w2.heap.size,0,none⟩=some (.slice (some ⟨b5,off5,none⟩) m5 c5)/\x.cell? ⟨b,off+k*9+7,none⟩=some (.slice loc9 p9 cp9)/\x.cell? ⟨b5,off5+k*9+7,none⟩=some (.slice loc8 p8 cp8)):=⟨fun x hx=>by
  have hb:Below W3.heap.size W3 x:=Below.trans zD hx;have M:=HM.1.below hb;obtain ⟨-,-,-,-,-,-,-,c7,-⟩:=HC1.1.below M.bel lb;obtain ⟨-,-,-,-,-,-,-,d7,-⟩:=HC5.1.below (HB1.1.trans (hb.mono HB1.1.size)) lb5;dsimp only at c7 d7;rw [<-HP9.1] at c7;rw [<-HP8.1] at d7
  exact ⟨((M.at 2 rfl).1.2 0 _ rfl).1,((M.at 0 rfl).1.2 0 _ rfl).1,c7,d7⟩⟩
 have hw1:IntKind.i64.wrap (gr+(p8:Int))=gr+(p8:Int):=IntWalk.i64_in _ ⟨by omega,by omega⟩;have hw2:IntKind.i64.wrap (gr+(p8:Int) - (p9:Int))=gr+(p8:Int) - (p9:Int):=IntWalk.i64_in _ ⟨by omega,by omega⟩;refine qar (by kernel_rfl) ?_;refine wpL_v 0 rfl (fun x hx=>by obtain ⟨d0,d1,d2,d3⟩:=HLE.1 x hx;go_simp;try with_reducible rfl) ?_
 try simp only [Act.put,qA,qB,qC]
 refine wpL_v 1 rfl (fun x hx=>by obtain ⟨d0,d1,d2,d3⟩:=HLE.1 x hx;go_simp;try with_reducible rfl) ?_
 try simp only [Act.put,qA,qB,qC]
 refine wpL_v 2 rfl (fun x hx=>by obtain ⟨d0,d1,d2,d3⟩:=HLE.1 x hx;go_simp;try with_reducible rfl) ?_
 try simp only [Act.put,qA,qB,qC]
 refine wpL_v 3 rfl (fun x hx=>by obtain ⟨d0,d1,d2,d3⟩:=HLE.1 x hx;go_simp;try with_reducible rfl) ?_
 try simp only [Act.put,qA,qB,qC]
 refine wpL_v 4 rfl (fun x hx=>by obtain ⟨d0,d1,d2,d3⟩:=HLE.1 x hx;go_simp;try with_reducible rfl) ?_
 try simp only [Act.put,qA,qB,qC]
 refine wpL_v 5 rfl (fun x hx=>by obtain ⟨d0,d1,d2,d3⟩:=HLE.1 x hx;go_simp;try with_reducible rfl) ?_
 try simp only [Act.put,qA,qB,qC]
 refine wpL_v 6 rfl (fun x hx=>by obtain ⟨d0,d1,d2,d3⟩:=HLE.1 x hx;go_simp;try with_reducible rfl) ?_
 try simp only [Act.put,qA,qB,qC]
 refine wpL_v 7 rfl (fun x hx=>by obtain ⟨d0,d1,d2,d3⟩:=HLE.1 x hx;go_simp;try with_reducible rfl) ?_
 try simp only [Act.put,qA,qB,qC]
 refine wpL_v 8 rfl (fun x hx=>by obtain ⟨d0,d1,d2,d3⟩:=HLE.1 x hx;go_simp;try with_reducible rfl) ?_
 try simp only [Act.put,qA,qB,qC]
 refine wpL_v 9 rfl (fun x hx=>by obtain ⟨d0,d1,d2,d3⟩:=HLE.1 x hx;go_simp;try with_reducible rfl) ?_
 try simp only [Act.put,qA,qB,qC]
 refine wpL_v 10 rfl (fun x hx=>by obtain ⟨d0,d1,d2,d3⟩:=HLE.1 x hx;go_simp;try with_reducible rfl) ?_
 try simp only [Act.put,qA,qB,qC]
 refine wpL_v 11 rfl (fun x hx=>by obtain ⟨d0,d1,d2,d3⟩:=HLE.1 x hx;go_simp;try with_reducible rfl) ?_
 try simp only [Act.put,qA,qB,qC]
 refine wpL_v 12 rfl (fun x hx=>by obtain ⟨d0,d1,d2,d3⟩:=HLE.1 x hx;go_simp;try with_reducible rfl) ?_
 try simp only [Act.put,qA,qB,qC]
 refine wpL_v 13 rfl (fun x hx=>by obtain ⟨d0,d1,d2,d3⟩:=HLE.1 x hx;go_simp;try with_reducible rfl) ?_
 try simp only [Act.put,qA,qB,qC]
 refine wpL_v 14 rfl (fun x hx=>by obtain ⟨d0,d1,d2,d3⟩:=HLE.1 x hx;go_simp;try with_reducible rfl) ?_
 try simp only [Act.put,qA,qB,qC]
 refine wpL_v 15 rfl (fun x hx=>by obtain ⟨d0,d1,d2,d3⟩:=HLE.1 x hx;go_simp;try with_reducible rfl) ?_
 try simp only [Act.put,qA,qB,qC]
 refine wpL_v 16 rfl (fun x hx=>by obtain ⟨d0,d1,d2,d3⟩:=HLE.1 x hx;go_simp;try with_reducible rfl) ?_
 try simp only [Act.put,qA,qB,qC]
 refine wpL_v 17 rfl (fun x hx=>by obtain ⟨d0,d1,d2,d3⟩:=HLE.1 x hx;go_simp;try with_reducible rfl) ?_
 try simp only [Act.put,qA,qB,qC]
 refine qdd (by kernel_rfl) ?_ _;intro W4 hy;have hb4:=(Below.trans zD hy:Below W3.heap.size W3 W4);replace HM:=zS (HM.1.below hb4);clear hb4 hy HLE;go_wp2_with fail;go_ret;exact ⟨by rw [HX7.1];rfl,HM.1.bel⟩
end
section
variable {gs rs:List NR} {B c g k n:Nat} {va:Option Addr} {W:World}
structure CI (W:World) (B:Nat) (va:Option Addr) (n c:Nat) (rs gs:List NR) (k:Nat):Prop where
 len:gs.length=n
 nd:nds gs=nds rs
 own:W.ownsRow B 90 9 (.slice va n c) n (ncs gs)
 done:∀ i (hi:i<gs.length),i<k->W.ownsRow B 143 2 (.slice gs[i].loc gs[i].nd.pieces.length gs[i].cap) gs[i].nd.pieces.length (pcs gs[i].nd.pieces)
 ap:∀ i j (hi:i<gs.length) (hj:j<gs.length),i<j->j<k->gs[i].loc ≠ none->gs[j].loc ≠ none->gs[i].loc ≠ gs[j].loc
 rest:∀ i (hi:i<gs.length) (h2:i<rs.length),k<=i->gs[i]=rs[i]
theorem CI.below {W W':World} (h:CI W B va n c rs gs k) (hb:Below W.heap.size W W'):CI W' B va n c rs gs k:=by
 have hg:W.grownBy W' none:=⟨hb.os,hb.tape,hb.output,hb.size,fun k hk _=>hb.block k hk⟩;exact ⟨h.len,h.nd,h.own.kept hg (Classical.em _),fun i hi hk=>(h.done i hi hk).kept hg (Classical.em _),h.ap,h.rest⟩
theorem CI.fin (h:CI W B va n c rs gs k) (hk:n<=k):NB W B (.slice va n c) gs:=by
 refine ⟨by rw [h.len];exact h.own,fun r hr=>?_,?_⟩
 ·obtain ⟨i,hi,rfl⟩:=List.getElem_of_mem hr
  exact h.done i hi (by have:=h.len;omega)
 ·refine List.pairwise_iff_getElem.2 fun i j hi hj hij=>h.ap i j hi hj hij (by have:=h.len;omega)
theorem CI.cell (h:CI W B (some ⟨g,0,none⟩) n c rs gs k) (i:Nat) (hi:i<gs.length) (f:Nat) (v:Value) (hv:(qaj gs[i])[f]?=some v):W.cell? ⟨g,i*9+f,none⟩=some v/\W.frozen? ⟨g,i*9+f,none⟩=false:=by
 have hf:f<9:=by have:=(List.getElem?_eq_some_iff.1 hv).1;rw [qai] at this;exact this
 exact (qan h.own).2 _ _ ((flat_get qai gs i hi f hf).trans hv)
theorem qhc {n c m cc:Nat} {L M:List Value} {loc:Option Addr} (hown:W.ownsRow B 90 9 (.slice (some ⟨g,0,none⟩) n c) n L) (h:W.ownsRow B 143 2 (.slice loc m cc) m M) (i:Nat) (x:Value):(W.setCell ⟨g,i,none⟩ x).ownsRow B 143 2 (.slice loc m cc) m M:=by
 refine h.kept (qam W g i x) ?_
 cases e:(Value.slice loc m cc).ownBlock with
 | none=>exact .inl rfl
 | some q =>
  refine .inr fun e2=>?_;obtain ⟨c1,h1⟩:=qau h e;obtain ⟨c2,h2⟩:=qau hown (show (Value.slice (some ⟨g,0,none⟩) n c).ownBlock=some g from rfl);cases e2;rw [h1] at h2;simp at h2
theorem CI.name (h:CI W B (some ⟨g,0,none⟩) n c rs gs k) (hk:k<gs.length):CI (W.setCell ⟨g,k*9+2,none⟩ (.string gs[k].nd.name)) B (some ⟨g,0,none⟩) n c rs gs k:=by
 have hcs:=qih gs k hk 2 (by omega) (.string gs[k].nd.name) gs[k] rfl;rw [List.set_getElem_self] at hcs;have hst:=(h.own.stored (k*9+2) (.string gs[k].nd.name)).1;rw [hcs] at hst;exact ⟨h.len,h.nd,hst,fun i hi q=>qhc h.own (h.done i hi q) _ _,h.ap,h.rest⟩
theorem CI.piece {W W1:World} (h:CI W B (some ⟨g,0,none⟩) n c rs gs k) (hk:k<gs.length) (hB:B<=W.heap.size) (hb:Below W.heap.size W W1) {a':Option Addr} {c':Nat}
  (ho:W1.ownsRow W.heap.size 143 2 (.slice a' gs[k].nd.pieces.length c') gs[k].nd.pieces.length (pcs gs[k].nd.pieces)) :
  CI (W1.setCell ⟨g,k*9+7,none⟩ (.slice a' gs[k].nd.pieces.length c')) B (some ⟨g,0,none⟩) n c rs (gs.set k ⟨gs[k].nd,a',c'⟩) (k+1):=by
 have h1:=h.below hb;have hcs:=qih gs k hk 7 (by omega) (.slice a' gs[k].nd.pieces.length c') ⟨gs[k].nd,a',c'⟩ rfl;have hst:=(h1.own.stored (k*9+7) (.slice a' gs[k].nd.pieces.length c')).1;rw [hcs] at hst
 have hfar:∀ i (hi:i<gs.length),i<k->∀ q,gs[i].loc=some q->a' ≠ some q:=fun i hi hik q e e2=>by
  have l1:=((h.done i hi hik).lt q.block (by rw [e];rfl)).2;have l2:=(ho.lt q.block (by rw [e2];rfl)).1;omega
 refine ⟨by rw [List.length_set];exact h.len,?_,hst,fun i hi hik=>?_,fun i j hi hj hij hjk=>?_,fun i hi h2 hki=>?_⟩
 ·rw [qfe,<-h.nd]
  have:gs[k].nd=(nds gs)[k]'(by rw [qaf];exact hk):=by simp [nds]
  rw [this,List.set_getElem_self]
 ·rw [List.length_set] at hi
  rw [List.getElem_set];split
  ·rename_i e
   subst e;exact qhc h1.own (qfr ho hB) _ _
  ·exact qhc h1.own (h1.done i hi (by omega)) _ _
 ·rw [List.length_set] at hi hj
  rw [List.getElem_set,List.getElem_set]
  by_cases e1:k=j
  ·subst e1
   rw [if_pos rfl,if_neg (by omega)];intro q1 q2 e;obtain ⟨q,hq⟩:=Option.ne_none_iff_exists'.1 q1;exact hfar i hi (by omega) q hq (by rw [<-hq,e])
  ·rw [if_neg e1,if_neg (by omega)]
   exact h.ap i j hi hj hij (by omega)
 ·rw [List.length_set] at hi
  rw [List.getElem_set,if_neg (by omega)];exact h.rest i hi h2 (by omega)
theorem qqc {w:World} {v:Value} {T:TM} {lo hi:Nat} (h:TSee w v T lo hi) (hf:NFit T):Calls Tryz.prog 58 #[v] w fun e w'=>CpPost T w e w':=by
 obtain ⟨a,cap,rs,rfl,hr,hm⟩:=h;obtain ⟨n,hn⟩:∃ n,n=rs.length:=⟨_,rfl⟩;obtain ⟨nx,hnx⟩:∃ nx,nx=T.next:=⟨_,rfl⟩;have hl:n<=1048576:=by unfold NFit at hf;rw [<-hr,qaf] at hf;omega
 have HSZ:Sh (∀ r ∈ rs,r.nd.name.size<=1048576/\r.nd.pieces.length<=1048576):=⟨fun r hr'=>by
  have:=qep (show r.nd ∈ T.nodes by rw [<-hr];exact List.mem_map.2 ⟨r,hr',rfl⟩);unfold NFit at hf
  omega⟩
 unfold CpPost;rw [<-hn,<-hnx,<-hr];have HN:=zS hn;have HM:=zS hm
 have HCN:Sh (∀ W,Below w.heap.size w W->Calls Tryz.prog 102 #[.slice a n cap] W fun e w'=>qij (ncs rs) n W e w'):=⟨fun W hb=>cloneN_any (fun hp=>by
   obtain ⟨b,off,e1,_,_,e2,e3⟩:=(hm.below hb).1 hp
   exact ⟨b,off,e1,e2,e3⟩) hn hl⟩
 unfold qij at HCN;clear hm hn hnx hr hf;go_enter Tryz.func58,Tryz.ntmps58;go_upto_region 1 with fail;obtain ⟨tb,htb⟩:∃ tb,tb=w.heap.size:=⟨_,rfl⟩;obtain ⟨rb,hrb⟩:∃ rb,rb=w.heap.size+1:=⟨_,rfl⟩;refine qaa (fun W=>MB w W [(rb,[.slice none 0 0,.int .i64 0]),(tb,[.slice a n cap,.int .i64 nx])]/\rb<W.heap.size) ⟨by rw [hrb,htb];exact MB.two w #[.slice a n cap,.int .i64 nx] #[.slice none 0 0,.int .i64 0] 37 37,by rw [hrb];simp⟩ ?_;rintro W1 ⟨hW1,hrl⟩;have HMB:=zS hW1;have x0:=((HMB.1.at 1 rfl).1.2 0 _ rfl).1;have htr:Sh (tb<=rb/\w.heap.size<=tb):=⟨by omega⟩;rw [<-hrb,<-htb];clear hW1 htb hrb;go_upto_region 2 with (go_at_call 102;refine (HCN.1 _ HMB.1.bel).mono ?_;rintro e w2 ⟨va,vc,rfl,hown,hb2⟩;have HMB2:=zS (HMB.1.below hb2);have HOW:=zS hown;have HB2:=zS hb2;clear hown hb2 x0);have HCI:Sh (CI w2 W1.heap.size va n vc rs rs 0):=⟨⟨HN.1.symm,rfl,HOW.1,fun i hi h=>absurd h (Nat.not_lt_zero _),fun i j hi hj h1 h2=>absurd h2 (Nat.not_lt_zero _),fun i hi h2 _=>rfl⟩⟩;have hsz2:Sh (W1.heap.size<=w2.heap.size):=⟨HB2.1.size⟩;clear HCN HMB HOW HB2;go_wp2_with fail;go_loopw [10] (fun iv wr=>∃ (k:Nat) (gs:List NR),iv = .int .i64 k/\k<=n/\Sh (CI wr W1.heap.size va n vc rs gs k)/\Sh (MB w wr [(rb,[.slice none 0 0,.int .i64 0]),(tb,[.slice a n cap,.int .i64 nx])])/\Sh (W1.heap.size<=wr.heap.size)) (fun iv _=>n - (intOf iv).toNat)
 case atStart=>exact ⟨0,rs,rfl,Nat.zero_le _,HCI,HMB2,hsz2⟩
 case round =>
  clear HCI HMB2 hsz2;obtain ⟨k,gs,rfl,hk,HCI,HMB,hsz⟩:=hrel;obtain ⟨wo,rfl⟩:∃ wo,wo=wr:=⟨_,rfl⟩
  by_cases hlt:k<n
  case pos =>
   have hkg:k<gs.length:=by have:=HCI.1.len;omega
   have hkr:k<rs.length:=by have:=HN.1;omega
   have k0:(0:Int)<=(k:Int):=by omega
   have k1:(k:Int)<(n:Int):=by omega
   obtain ⟨g,vc',cur,e9,hBg,hgl,hgb⟩:=qfg HCI.1.own (by omega);have hva:va=some ⟨g,0,none⟩:=(by simpa using e9:va=some ⟨g,0,none⟩/\vc=vc').1;clear e9 hgb;subst hva;have hgk:gs[k]=rs[k]:=HCI.1.rest k hkg hkr zL;have hsz9:=HSZ.1 rs[k] (List.getElem_mem hkr)
   have HFAR:Sh (∀ (V:World) (i:Nat) (x:Value),MB w V [(rb,[.slice none 0 0,.int .i64 0]),(tb,[.slice a n cap,.int .i64 nx])]->MB w (V.setCell ⟨g,i,none⟩ x) [(rb,[.slice none 0 0,.int .i64 0]),(tb,[.slice a n cap,.int .i64 nx])]):=⟨fun V i x M=>M.far (qam V g i x) (fun p hp e=>by
    cases e;have h9:=htr.1;simp at hp
    rcases hp with rfl | rfl <;> simp at hBg hrl <;> omega) (fun q e=>by cases e;have:=htr.1;omega)⟩
   have HPR:Sh (RRow w rs[k].loc (pcs rs[k].nd.pieces) lo hi):=⟨HM.1.2 _ (List.getElem_mem hkr)⟩;rw [<-hgk] at hsz9 HPR;have c2:=HCI.1.cell k hkg 2 _ rfl;obtain ⟨r,hrk⟩:∃ r,r=gs[k]:=⟨_,rfl⟩;rw [<-hrk] at c2 hsz9 HPR;have HRK:=zS hrk;have HCL:=zS (fun W=>implClone9 r.nd.name W (by omega));clear hgk hrk;obtain ⟨c2a,c2f⟩:=c2;go_upto_region 6 with (go_at_call 103;refine (HCL.1 _).mono ?_;rintro e w5 ⟨rfl,hb5⟩;have HCI5:=zS (HCI.1.below hb5);have HMB5:=zS (HMB.1.below hb5);have HS5:=zS (Nat.le_trans hsz.1 hb5.size);obtain ⟨d2a,d2f⟩:=HCI5.1.cell k hkg 2 (.string r.nd.name) (by rw [<-HRK.1];rfl);clear hb5 c2a c2f);refine qaa (fun W=>CI W W1.heap.size (some ⟨g,0,none⟩) n vc rs gs k/\MB w W [(rb,[.slice none 0 0,.int .i64 0]),(tb,[.slice a n cap,.int .i64 nx])]/\W1.heap.size<=W.heap.size) ⟨by have:=HCI5.1.name hkg;rw [<-HRK.1] at this;exact this,HFAR.1 _ _ _ HMB5.1,by simp [World.setCell];exact HS5.1⟩ ?_;rintro V ⟨hCV,hMV,hsV⟩;have HCV:=zS hCV;have HMV:=zS hMV;have HSV:=zS hsV;clear hCV hMV hsV HCI5 HMB5 HS5 HCI HMB hsz d2a d2f HCL;obtain ⟨c7a,c7f⟩:=HCV.1.cell k hkg 7 (.slice r.loc r.nd.pieces.length r.cap) (by rw [<-HRK.1];rfl);obtain ⟨pl,hpl⟩:∃ pl,pl=r.nd.pieces.length:=⟨_,rfl⟩;have HPL:=zS hpl
   have HCP:Sh (Calls Tryz.prog 104 #[.slice r.loc pl r.cap] V fun e w'=>qii (pcs r.nd.pieces) pl V e w'):=⟨cloneP_any (fun hp=>by
    obtain ⟨b,off,e1,_,_,e2,e3⟩:=(HPR.1.below HMV.1.bel) hp
    exact ⟨b,off,e1,e2,e3⟩) hpl (by omega)⟩
   unfold qii at HCP;rw [<-hpl] at c7a;clear hpl hsz9;go_wp2_with (go_at_call 104;refine HCP.1.mono ?_;rintro e w6 ⟨pa,pcc,rfl,hpo,hb6⟩;have HPO:=zS hpo;have HB6:=zS hb6;obtain ⟨d7a,d7f⟩:=(HCV.1.below hb6).cell k hkg 7 (.slice r.loc pl r.cap) (by rw [<-HRK.1,HPL.1];rfl);clear hpo hb6 c7a c7f);go_roundw
   case rel =>
    have h9:=HCV.1.piece hkg HSV.1 HB6.1 (a':=pa) (c':=pcc) (by rw [<-HRK.1,<-HPL.1];exact HPO.1);rw [<-HRK.1,<-HPL.1] at h9;exact ⟨k+1,_,by go_num,by omega,⟨h9⟩,⟨HFAR.1 _ _ _ (HMV.1.below HB6.1)⟩,⟨by simp [World.setCell];exact Nat.le_trans HSV.1 HB6.1.size⟩⟩
   case measure=>simp [intOf];omega
  case neg =>
   have k1:¬ (k:Int)<(n:Int):=by omega
   have HNB:=zS (HCI.1.fin (by omega));have HND:=zS HCI.1.nd;have HGL:=zS HCI.1.len;obtain ⟨z0,zf0,z1,zf1⟩:=bwc2 ((HMB.1.at 0 rfl).1);have y1:=((HMB.1.at 1 rfl).1.2 1 _ rfl).1;have hne:¬ (tb=rb):=by have:=htr.1;have h8:=(List.pairwise_cons.1 HMB.1.dist).1 _ (List.mem_singleton.2 rfl);exact fun e=>h8 e.symm
   clear HCI;go_wp2_with fail;refine qad (fun W=>MB w W [(rb,[.slice va n vc,.int .i64 nx]),(tb,[.slice a n cap,.int .i64 nx])]/\NB W W1.heap.size (.slice va n vc) gs) ⟨(HMB.1.put 0 rfl 0 (.slice va n vc) (by simp)).put 0 rfl 1 (.int .i64 nx) (by simp),(HNB.1.setBox rb 0 _ hrl).setBox rb 1 _ hrl⟩ ?_;rintro W9 ⟨hM9,hN9⟩;obtain ⟨r0,r1⟩:=bwb2 ((hM9.at 0 rfl).1);have hb9:=hM9.bel;refine bodyPost_ret (v:=.agg #[.slice va n vc,.int .i64 nx]) (by simp [results,Tryz.results58,go_sem,r0,r1]) rfl ⟨va,vc,gs,by rw [HGL.1],HND.1,by rw [HGL.1];exact hN9.low (by have:=htr.1;omega),hb9⟩
end
section
open BigFrame
variable {T:TM}
theorem nsum_filter (p:NM->Bool) (ns:List NM):nsum (ns.filter p)<=nsum ns:=by
 induction ns with
 | nil=>simp [nsum]
 | cons n ns ih =>
  rw [List.filter_cons];split
  ·simp only [nsum];omega
  ·simp only [nsum];omega
theorem qpn (h:qae T=true) {k:Nat} (x:NM) (hx:x.name.size+x.pieces.length<=1000):NFit (setN T k x):=by
 have h1:=qhi h;have h2:=qbi h;have h3:=qpw T.nodes k x;unfold NFit setN;dsimp only;rw [List.length_set];omega
theorem apply_fit (hf:NFit T) (e:EM) (g:Int):NFit (qak T e g).1:=by
 unfold qak;split
 ·exact hf
 ·rename_i hm
  have hm':mayX T e g=true:=by simpa using hm
  unfold mayX at hm';simp only [Bool.and_eq_true] at hm';have ht:=hm'.1.1;split
  ·exact hf
  ·split
   ·unfold addX
    repeat' split
    all_goals first | exact hf | exact qpm ht _ _ rfl
   ·split
    ·unfold addX
     repeat' split
     all_goals first | exact hf | exact qpm ht _ _ rfl
    ·split
     ·exact hf
     ·rename_i hid
      obtain ⟨k,hk,hat,-⟩:=qlg hid;have e1:plc T (findX T e.path)=k:=by unfold plc;rw [hat];rfl
      have hp:=qbr ht k hk;rw [e1];split
      ·unfold moveX
       repeat' split
       all_goals first | exact hf | exact qpx ht _ _ k hk hat
      ·split
       ·have h1:=qhi ht
        have h2:=qbi ht;unfold NFit dropT;dsimp only;have h3:=nsum_filter (fun n=>!qal T.nodes 15 n.id (findX T e.path)) T.nodes;have h4:=List.length_filter_le (fun n:NM=>!qal T.nodes 15 n.id (findX T e.path)) T.nodes;omega
       ·split
        ·unfold setX
         repeat' split
         all_goals first | exact hf | exact qpn ht _ (by rw [qev hk];dsimp only;omega)
        ·unfold qcd
         repeat' split
         all_goals first | exact hf | (refine qpn ht _ ?_;rw [qev hk] at *;simp only [List.length_append,qff];omega) | (refine qpn ht _ ?_;rw [qev hk];dsimp only;omega)
end
section
variable {L:List (Nat × List Value)} {rs xs:List NR} {r:NR} {B cap cap1 g gg hi i j k lo m n sz t:Nat} {a:Option Addr} {W W' W1 w w0 w5:World}
def recV (e:EM):Value:=
 if e.kind=1 then .iface 177 (.agg #[.string e.path,.string (qab e.path).1,.string (qab e.path).2.1])
 else if e.kind=2 then .iface 179 (.agg #[.string e.path,.string (qab e.path).1,.string (qab e.path).2.1,.int .i64 e.who])
 else if e.kind=3 then .iface 181 (.agg #[.string e.path,.string e.dest,.string (qab e.dest).1,.string (qab e.dest).2.1])
 else if e.kind=4 then .iface 183 (.agg #[.string e.path])
 else if e.kind=5 then .iface 185 (.agg #[.string e.path,.int .i64 e.num])
 else if e.kind=6 then .iface 187 (.agg #[.string e.path,.int .i64 e.num])
 else if e.kind=7 then .iface 189 (.agg #[.string e.path,.int .i64 e.num])
 else if e.kind=8 then .iface 190 (.agg #[.string e.path])
 else if e.kind=9 then .iface 192 (.agg #[.string e.path,.int .i64 e.who])
 else .iface 193 (.agg #[.string e.path])
theorem qhg (p:ByteArray) (w:World) (hp:p.size<=1048576):Calls Tryz.prog 117 #[.string p] w fun e w'=>e = .returned (.agg #[.string p,.string (qab p).1,.string (qab p).2.1])/\Below w.heap.size w w':=by
 have HP:=zS (fun W=>qgy p W hp);unfold qfj at HP;generalize (qab p).1=up at HP ⊢;generalize (qab p).2.1=nm at HP ⊢;generalize (qab p).2.2=ok at HP;go_enter Tryz.func117,Tryz.ntmps117;go_upto_region 1 with fail;obtain ⟨gb,hgb⟩:∃ gb,gb=w.heap.size:=⟨_,rfl⟩;refine qaa (fun W=>MB w W [(gb,[.string ⟨#[]⟩,.string ⟨#[]⟩,.string ⟨#[]⟩])]) (by rw [hgb];exact (MB.nil w).new #[.string ⟨#[]⟩,.string ⟨#[]⟩,.string ⟨#[]⟩] 174) ?_;intro W1 hW1;have HM:=zS hW1;rw [<-hgb];clear hW1 hgb hp;go_upto_region 2 with (go_at_call 156;refine (HP.1 _).mono ?_;rintro e w1 ⟨rfl,hb⟩;replace HM:=zS (HM.1.below hb);clear hb);obtain ⟨f0,g0,f1,g1,f2,g2⟩:=bwc3 ((HM.1.at 0 rfl).1);go_wp2_with fail;refine qad (fun W=>MB w W [(gb,[.string p,.string up,.string nm])]) (((HM.1.put 0 rfl 0 (.string p) (by simp)).put 0 rfl 1 (.string up) (by simp)).put 0 rfl 2 (.string nm) (by simp)) ?_;intro W9 hM;obtain ⟨z0,z1,z2⟩:=bwb3 ((hM.at 0 rfl).1);exact bodyPost_ret (v:=.agg #[.string p,.string up,.string nm]) (by simp [results,Tryz.results117,go_sem,z0,z1,z2]) rfl ⟨rfl,hM.bel⟩
theorem recordOf1 (path dest:ByteArray) (num who:Int) (w:World) (hp:path.size<=1048576):Calls Tryz.prog 64 #[.agg #[.int .i64 1,.string path,.string dest,.int .i64 num,.int .i64 who]] w fun r w'=>r = .returned (.iface 177 (.agg #[.string path,.string (qab path).1,.string (qab path).2.1]))/\Below w.heap.size w w':=by
 have HP:=zS (fun W=>qhg path W hp);generalize (qab path).1=up at HP ⊢;generalize (qab path).2.1=nm at HP ⊢;clear hp;go_enter Tryz.func64,Tryz.ntmps64;go_upto_region 1 with fail;obtain ⟨eb,heb⟩:∃ eb,eb=w.heap.size:=⟨_,rfl⟩;refine qaa (fun W=>MB w W [(eb,[.int .i64 1,.string path,.string dest,.int .i64 num,.int .i64 who])]) (by rw [heb];exact (MB.nil w).new #[.int .i64 1,.string path,.string dest,.int .i64 num,.int .i64 who] 47) ?_;intro W1 hW1;have HM:=zS hW1;have x1:=((HM.1.at 0 rfl).1.2 1 _ rfl).1;rw [<-heb];clear hW1 heb;go_upto_region 2 with fail;obtain ⟨nb,hnb⟩:∃ nb,nb=W1.heap.size:=⟨_,rfl⟩;refine qaa (fun W=>MB w W [(nb,[.string path]),(eb,[.int .i64 1,.string path,.string dest,.int .i64 num,.int .i64 who])]) (by rw [hnb];exact HM.1.new #[.string path] 172) ?_;intro W2 hW2;clear x1 HM;have HM:=zS hW2;obtain ⟨x0,x1,x2,x3,x4⟩:=bwb5 ((HM.1.at 1 rfl).1);have y0:=((HM.1.at 0 rfl).1.2 0 _ rfl).1;rw [<-hnb];clear hW2 hnb;go_wp2_with (go_at_call 117;refine (HP.1 _).mono ?_;rintro e w1 ⟨rfl,hb⟩;replace HM:=zS (HM.1.below hb);clear hb x0 x1 x2 x3 x4 y0);go_ret;exact ⟨rfl,HM.1.bel⟩
theorem recordOf2 (path dest:ByteArray) (num who:Int) (w:World) (hp:path.size<=1048576):Calls Tryz.prog 64 #[.agg #[.int .i64 2,.string path,.string dest,.int .i64 num,.int .i64 who]] w fun r w'=>r = .returned (.iface 179 (.agg #[.string path,.string (qab path).1,.string (qab path).2.1,.int .i64 who]))/\Below w.heap.size w w':=by
 have HP:=zS (fun W=>qhg path W hp);generalize (qab path).1=up at HP ⊢;generalize (qab path).2.1=nm at HP ⊢;clear hp;go_enter Tryz.func64,Tryz.ntmps64;go_upto_region 1 with fail;obtain ⟨eb,heb⟩:∃ eb,eb=w.heap.size:=⟨_,rfl⟩;refine qaa (fun W=>MB w W [(eb,[.int .i64 2,.string path,.string dest,.int .i64 num,.int .i64 who])]) (by rw [heb];exact (MB.nil w).new #[.int .i64 2,.string path,.string dest,.int .i64 num,.int .i64 who] 47) ?_;intro W1 hW1;have HM:=zS hW1;have x1:=((HM.1.at 0 rfl).1.2 1 _ rfl).1;rw [<-heb];clear hW1 heb;go_upto_region 2 with fail;obtain ⟨nb,hnb⟩:∃ nb,nb=W1.heap.size:=⟨_,rfl⟩;refine qaa (fun W=>MB w W [(nb,[.string path]),(eb,[.int .i64 2,.string path,.string dest,.int .i64 num,.int .i64 who])]) (by rw [hnb];exact HM.1.new #[.string path] 172) ?_;intro W2 hW2;clear x1 HM;have HM:=zS hW2;obtain ⟨x0,x1,x2,x3,x4⟩:=bwb5 ((HM.1.at 1 rfl).1);have y0:=((HM.1.at 0 rfl).1.2 0 _ rfl).1;rw [<-hnb];clear hW2 hnb;go_upto_region 6 with fail
 have HLE:Sh (∀ x,Later W2.drew x->x.cell? ⟨eb,1,none⟩=some (.string path)/\x.cell? ⟨eb,2,none⟩=some (.string dest)/\x.cell? ⟨eb,4,none⟩=some (.int .i64 who)/\x.cell? ⟨nb,0,none⟩=some (.string path)):=⟨fun x hx=>by
  have M:=HM.1.below (Below.trans zD hx)
  exact ⟨((M.at 1 rfl).1.2 1 _ rfl).1,((M.at 1 rfl).1.2 2 _ rfl).1,((M.at 1 rfl).1.2 4 _ rfl).1,((M.at 0 rfl).1.2 0 _ rfl).1⟩⟩
 refine qar (by kernel_rfl) ?_;refine wpL_v 0 rfl (fun x hx=>by obtain ⟨d0,d1,d2,d3⟩:=HLE.1 x hx;go_simp;try with_reducible rfl) ?_
 try simp only [Act.put,qA,qB,qC]
 refine wpL_v 1 rfl (fun x hx=>by obtain ⟨d0,d1,d2,d3⟩:=HLE.1 x hx;go_simp;try with_reducible rfl) ?_
 try simp only [Act.put,qA,qB,qC]
 refine qcq (i:=2) (v:=.agg #[.string path,.string up,.string nm]) (f:=117) (args:=#[.string path]) rfl (by kernel_rfl) (by kernel_rfl) (by kernel_rfl) (fun _ _ _ h=>h) (by rfl) ?hya2 (fun x _=>HP.1 x) ?resta2
 case hya2=>(intro x hx;obtain ⟨d0,d1,d2,d3⟩:=HLE.1 x hx;go_simp;try with_reducible rfl)
 try simp only [Act.put,qA,qB,qC]
 refine wpL_v 3 rfl (fun x hx=>by obtain ⟨d0,d1,d2,d3⟩:=HLE.1 x hx;go_simp;try with_reducible rfl) ?_
 try simp only [Act.put,qA,qB,qC]
 refine wpL_v 4 rfl (fun x hx=>by obtain ⟨d0,d1,d2,d3⟩:=HLE.1 x hx;go_simp;try with_reducible rfl) ?_
 try simp only [Act.put,qA,qB,qC]
 refine wpL_v 5 rfl (fun x hx=>by obtain ⟨d0,d1,d2,d3⟩:=HLE.1 x hx;go_simp;try with_reducible rfl) ?_
 try simp only [Act.put,qA,qB,qC]
 refine wpL_v 6 rfl (fun x hx=>by obtain ⟨d0,d1,d2,d3⟩:=HLE.1 x hx;go_simp;try with_reducible rfl) ?_
 try simp only [Act.put,qA,qB,qC]
 refine wpL_v 7 rfl (fun x hx=>by obtain ⟨d0,d1,d2,d3⟩:=HLE.1 x hx;go_simp;try with_reducible rfl) ?_
 try simp only [Act.put,qA,qB,qC]
 refine qdd (by kernel_rfl) ?_ _;intro w5 hy;replace HM:=zS (HM.1.below (Below.trans zD hy));clear hy HLE x0 x1 x2 x3 x4 y0;go_wp2_with fail;go_ret;exact ⟨rfl,HM.1.bel⟩
theorem recordOf3 (path dest:ByteArray) (num who:Int) (w:World) (hd:dest.size<=1048576):Calls Tryz.prog 64 #[.agg #[.int .i64 3,.string path,.string dest,.int .i64 num,.int .i64 who]] w fun r w'=>r = .returned (.iface 181 (.agg #[.string path,.string dest,.string (qab dest).1,.string (qab dest).2.1]))/\Below w.heap.size w w':=by
 have HP:=zS (fun W=>qhg dest W hd);generalize (qab dest).1=up at HP ⊢;generalize (qab dest).2.1=nm at HP ⊢;clear hd;go_enter Tryz.func64,Tryz.ntmps64;go_upto_region 1 with fail;obtain ⟨eb,heb⟩:∃ eb,eb=w.heap.size:=⟨_,rfl⟩;refine qaa (fun W=>MB w W [(eb,[.int .i64 3,.string path,.string dest,.int .i64 num,.int .i64 who])]) (by rw [heb];exact (MB.nil w).new #[.int .i64 3,.string path,.string dest,.int .i64 num,.int .i64 who] 47) ?_;intro W1 hW1;have HM:=zS hW1;have x1:=((HM.1.at 0 rfl).1.2 1 _ rfl).1;rw [<-heb];clear hW1 heb;go_upto_region 2 with fail;obtain ⟨nb,hnb⟩:∃ nb,nb=W1.heap.size:=⟨_,rfl⟩;refine qaa (fun W=>MB w W [(nb,[.string path]),(eb,[.int .i64 3,.string path,.string dest,.int .i64 num,.int .i64 who])]) (by rw [hnb];exact HM.1.new #[.string path] 172) ?_;intro W2 hW2;clear x1 HM;have HM:=zS hW2;obtain ⟨x0,x1,x2,x3,x4⟩:=bwb5 ((HM.1.at 1 rfl).1);have y0:=((HM.1.at 0 rfl).1.2 0 _ rfl).1;rw [<-hnb];clear hW2 hnb;go_upto_region 8 with fail
 have HLE:Sh (∀ x,Later W2.drew x->x.cell? ⟨eb,1,none⟩=some (.string path)/\x.cell? ⟨eb,2,none⟩=some (.string dest)/\x.cell? ⟨eb,4,none⟩=some (.int .i64 who)/\x.cell? ⟨nb,0,none⟩=some (.string path)):=⟨fun x hx=>by
  have M:=HM.1.below (Below.trans zD hx)
  exact ⟨((M.at 1 rfl).1.2 1 _ rfl).1,((M.at 1 rfl).1.2 2 _ rfl).1,((M.at 1 rfl).1.2 4 _ rfl).1,((M.at 0 rfl).1.2 0 _ rfl).1⟩⟩
 refine qar (by kernel_rfl) ?_;refine wpL_v 0 rfl (fun x hx=>by obtain ⟨d0,d1,d2,d3⟩:=HLE.1 x hx;go_simp;try with_reducible rfl) ?_
 try simp only [Act.put,qA,qB,qC]
 refine wpL_v 1 rfl (fun x hx=>by obtain ⟨d0,d1,d2,d3⟩:=HLE.1 x hx;go_simp;try with_reducible rfl) ?_
 try simp only [Act.put,qA,qB,qC]
 refine wpL_v 2 rfl (fun x hx=>by obtain ⟨d0,d1,d2,d3⟩:=HLE.1 x hx;go_simp;try with_reducible rfl) ?_
 try simp only [Act.put,qA,qB,qC]
 refine qcq (i:=3) (v:=.agg #[.string dest,.string up,.string nm]) (f:=117) (args:=#[.string dest]) rfl (by kernel_rfl) (by kernel_rfl) (by kernel_rfl) (fun _ _ _ h=>h) (by rfl) ?hya3 (fun x _=>HP.1 x) ?resta3
 case hya3=>(intro x hx;obtain ⟨d0,d1,d2,d3⟩:=HLE.1 x hx;go_simp;try with_reducible rfl)
 try simp only [Act.put,qA,qB,qC]
 refine wpL_v 4 rfl (fun x hx=>by obtain ⟨d0,d1,d2,d3⟩:=HLE.1 x hx;go_simp;try with_reducible rfl) ?_
 try simp only [Act.put,qA,qB,qC]
 refine wpL_v 5 rfl (fun x hx=>by obtain ⟨d0,d1,d2,d3⟩:=HLE.1 x hx;go_simp;try with_reducible rfl) ?_
 try simp only [Act.put,qA,qB,qC]
 refine wpL_v 6 rfl (fun x hx=>by obtain ⟨d0,d1,d2,d3⟩:=HLE.1 x hx;go_simp;try with_reducible rfl) ?_
 try simp only [Act.put,qA,qB,qC]
 refine qdd (by kernel_rfl) ?_ _;intro w5 hy;replace HM:=zS (HM.1.below (Below.trans zD hy));clear hy HLE x0 x1 x2 x3 x4 y0;go_wp2_with fail;go_ret;exact ⟨rfl,HM.1.bel⟩
theorem recordOf4 (path dest:ByteArray) (num who:Int) (w:World):Calls Tryz.prog 64 #[.agg #[.int .i64 4,.string path,.string dest,.int .i64 num,.int .i64 who]] w fun r w'=>r = .returned (.iface 183 (.agg #[.string path]))/\Below w.heap.size w w':=by
 go_enter Tryz.func64,Tryz.ntmps64;go_upto_region 1 with fail;obtain ⟨eb,heb⟩:∃ eb,eb=w.heap.size:=⟨_,rfl⟩;refine qaa (fun W=>MB w W [(eb,[.int .i64 4,.string path,.string dest,.int .i64 num,.int .i64 who])]) (by rw [heb];exact (MB.nil w).new #[.int .i64 4,.string path,.string dest,.int .i64 num,.int .i64 who] 47) ?_;intro W1 hW1;have HM:=zS hW1;have x1:=((HM.1.at 0 rfl).1.2 1 _ rfl).1;rw [<-heb];clear hW1 heb;go_upto_region 2 with fail;obtain ⟨nb,hnb⟩:∃ nb,nb=W1.heap.size:=⟨_,rfl⟩;refine qaa (fun W=>MB w W [(nb,[.string path]),(eb,[.int .i64 4,.string path,.string dest,.int .i64 num,.int .i64 who])]) (by rw [hnb];exact HM.1.new #[.string path] 172) ?_;intro W2 hW2;clear x1 HM;have HM:=zS hW2;obtain ⟨x0,x1,x2,x3,x4⟩:=bwb5 ((HM.1.at 1 rfl).1);have y0:=((HM.1.at 0 rfl).1.2 0 _ rfl).1;rw [<-hnb];clear hW2 hnb;go_wp2_with fail;go_ret;exact ⟨rfl,HM.1.bel⟩
theorem recordOf5 (path dest:ByteArray) (num who:Int) (w:World):Calls Tryz.prog 64 #[.agg #[.int .i64 5,.string path,.string dest,.int .i64 num,.int .i64 who]] w fun r w'=>r = .returned (.iface 185 (.agg #[.string path,.int .i64 num]))/\Below w.heap.size w w':=by
 go_enter Tryz.func64,Tryz.ntmps64;go_upto_region 1 with fail;obtain ⟨eb,heb⟩:∃ eb,eb=w.heap.size:=⟨_,rfl⟩;refine qaa (fun W=>MB w W [(eb,[.int .i64 5,.string path,.string dest,.int .i64 num,.int .i64 who])]) (by rw [heb];exact (MB.nil w).new #[.int .i64 5,.string path,.string dest,.int .i64 num,.int .i64 who] 47) ?_;intro W1 hW1;have HM:=zS hW1;have x1:=((HM.1.at 0 rfl).1.2 1 _ rfl).1;rw [<-heb];clear hW1 heb;go_upto_region 2 with fail;obtain ⟨nb,hnb⟩:∃ nb,nb=W1.heap.size:=⟨_,rfl⟩;refine qaa (fun W=>MB w W [(nb,[.string path]),(eb,[.int .i64 5,.string path,.string dest,.int .i64 num,.int .i64 who])]) (by rw [hnb];exact HM.1.new #[.string path] 172) ?_;intro W2 hW2;clear x1 HM;have HM:=zS hW2;obtain ⟨x0,x1,x2,x3,x4⟩:=bwb5 ((HM.1.at 1 rfl).1);have y0:=((HM.1.at 0 rfl).1.2 0 _ rfl).1;rw [<-hnb];clear hW2 hnb;go_wp2_with fail;go_ret;exact ⟨rfl,HM.1.bel⟩
theorem recordOf6 (path dest:ByteArray) (num who:Int) (w:World):Calls Tryz.prog 64 #[.agg #[.int .i64 6,.string path,.string dest,.int .i64 num,.int .i64 who]] w fun r w'=>r = .returned (.iface 187 (.agg #[.string path,.int .i64 num]))/\Below w.heap.size w w':=by
 go_enter Tryz.func64,Tryz.ntmps64;go_upto_region 1 with fail;obtain ⟨eb,heb⟩:∃ eb,eb=w.heap.size:=⟨_,rfl⟩;refine qaa (fun W=>MB w W [(eb,[.int .i64 6,.string path,.string dest,.int .i64 num,.int .i64 who])]) (by rw [heb];exact (MB.nil w).new #[.int .i64 6,.string path,.string dest,.int .i64 num,.int .i64 who] 47) ?_;intro W1 hW1;have HM:=zS hW1;have x1:=((HM.1.at 0 rfl).1.2 1 _ rfl).1;rw [<-heb];clear hW1 heb;go_upto_region 2 with fail;obtain ⟨nb,hnb⟩:∃ nb,nb=W1.heap.size:=⟨_,rfl⟩;refine qaa (fun W=>MB w W [(nb,[.string path]),(eb,[.int .i64 6,.string path,.string dest,.int .i64 num,.int .i64 who])]) (by rw [hnb];exact HM.1.new #[.string path] 172) ?_;intro W2 hW2;clear x1 HM;have HM:=zS hW2;obtain ⟨x0,x1,x2,x3,x4⟩:=bwb5 ((HM.1.at 1 rfl).1);have y0:=((HM.1.at 0 rfl).1.2 0 _ rfl).1;rw [<-hnb];clear hW2 hnb;go_wp2_with fail;go_ret;exact ⟨rfl,HM.1.bel⟩
theorem recordOf7 (path dest:ByteArray) (num who:Int) (w:World):Calls Tryz.prog 64 #[.agg #[.int .i64 7,.string path,.string dest,.int .i64 num,.int .i64 who]] w fun r w'=>r = .returned (.iface 189 (.agg #[.string path,.int .i64 num]))/\Below w.heap.size w w':=by
 go_enter Tryz.func64,Tryz.ntmps64;go_upto_region 1 with fail;obtain ⟨eb,heb⟩:∃ eb,eb=w.heap.size:=⟨_,rfl⟩;refine qaa (fun W=>MB w W [(eb,[.int .i64 7,.string path,.string dest,.int .i64 num,.int .i64 who])]) (by rw [heb];exact (MB.nil w).new #[.int .i64 7,.string path,.string dest,.int .i64 num,.int .i64 who] 47) ?_;intro W1 hW1;have HM:=zS hW1;have x1:=((HM.1.at 0 rfl).1.2 1 _ rfl).1;rw [<-heb];clear hW1 heb;go_upto_region 2 with fail;obtain ⟨nb,hnb⟩:∃ nb,nb=W1.heap.size:=⟨_,rfl⟩;refine qaa (fun W=>MB w W [(nb,[.string path]),(eb,[.int .i64 7,.string path,.string dest,.int .i64 num,.int .i64 who])]) (by rw [hnb];exact HM.1.new #[.string path] 172) ?_;intro W2 hW2;clear x1 HM;have HM:=zS hW2;obtain ⟨x0,x1,x2,x3,x4⟩:=bwb5 ((HM.1.at 1 rfl).1);have y0:=((HM.1.at 0 rfl).1.2 0 _ rfl).1;rw [<-hnb];clear hW2 hnb;go_wp2_with fail;go_ret;exact ⟨rfl,HM.1.bel⟩
theorem recordOf8 (path dest:ByteArray) (num who:Int) (w:World):Calls Tryz.prog 64 #[.agg #[.int .i64 8,.string path,.string dest,.int .i64 num,.int .i64 who]] w fun r w'=>r = .returned (.iface 190 (.agg #[.string path]))/\Below w.heap.size w w':=by
 go_enter Tryz.func64,Tryz.ntmps64;go_upto_region 1 with fail;obtain ⟨eb,heb⟩:∃ eb,eb=w.heap.size:=⟨_,rfl⟩;refine qaa (fun W=>MB w W [(eb,[.int .i64 8,.string path,.string dest,.int .i64 num,.int .i64 who])]) (by rw [heb];exact (MB.nil w).new #[.int .i64 8,.string path,.string dest,.int .i64 num,.int .i64 who] 47) ?_;intro W1 hW1;have HM:=zS hW1;have x1:=((HM.1.at 0 rfl).1.2 1 _ rfl).1;rw [<-heb];clear hW1 heb;go_upto_region 2 with fail;obtain ⟨nb,hnb⟩:∃ nb,nb=W1.heap.size:=⟨_,rfl⟩;refine qaa (fun W=>MB w W [(nb,[.string path]),(eb,[.int .i64 8,.string path,.string dest,.int .i64 num,.int .i64 who])]) (by rw [hnb];exact HM.1.new #[.string path] 172) ?_;intro W2 hW2;clear x1 HM;have HM:=zS hW2;obtain ⟨x0,x1,x2,x3,x4⟩:=bwb5 ((HM.1.at 1 rfl).1);have y0:=((HM.1.at 0 rfl).1.2 0 _ rfl).1;rw [<-hnb];clear hW2 hnb;go_wp2_with fail;go_ret;exact ⟨rfl,HM.1.bel⟩
theorem recordOf9 (path dest:ByteArray) (num who:Int) (w:World):Calls Tryz.prog 64 #[.agg #[.int .i64 9,.string path,.string dest,.int .i64 num,.int .i64 who]] w fun r w'=>r = .returned (.iface 192 (.agg #[.string path,.int .i64 who]))/\Below w.heap.size w w':=by
 go_enter Tryz.func64,Tryz.ntmps64;go_upto_region 1 with fail;obtain ⟨eb,heb⟩:∃ eb,eb=w.heap.size:=⟨_,rfl⟩;refine qaa (fun W=>MB w W [(eb,[.int .i64 9,.string path,.string dest,.int .i64 num,.int .i64 who])]) (by rw [heb];exact (MB.nil w).new #[.int .i64 9,.string path,.string dest,.int .i64 num,.int .i64 who] 47) ?_;intro W1 hW1;have HM:=zS hW1;have x1:=((HM.1.at 0 rfl).1.2 1 _ rfl).1;rw [<-heb];clear hW1 heb;go_upto_region 2 with fail;obtain ⟨nb,hnb⟩:∃ nb,nb=W1.heap.size:=⟨_,rfl⟩;refine qaa (fun W=>MB w W [(nb,[.string path]),(eb,[.int .i64 9,.string path,.string dest,.int .i64 num,.int .i64 who])]) (by rw [hnb];exact HM.1.new #[.string path] 172) ?_;intro W2 hW2;clear x1 HM;have HM:=zS hW2;obtain ⟨x0,x1,x2,x3,x4⟩:=bwb5 ((HM.1.at 1 rfl).1);have y0:=((HM.1.at 0 rfl).1.2 0 _ rfl).1;rw [<-hnb];clear hW2 hnb;go_wp2_with fail;go_ret;exact ⟨rfl,HM.1.bel⟩
theorem recordOf10 (path dest:ByteArray) (num who:Int) (w:World):Calls Tryz.prog 64 #[.agg #[.int .i64 10,.string path,.string dest,.int .i64 num,.int .i64 who]] w fun r w'=>r = .returned (.iface 193 (.agg #[.string path]))/\Below w.heap.size w w':=by
 go_enter Tryz.func64,Tryz.ntmps64;go_upto_region 1 with fail;obtain ⟨eb,heb⟩:∃ eb,eb=w.heap.size:=⟨_,rfl⟩;refine qaa (fun W=>MB w W [(eb,[.int .i64 10,.string path,.string dest,.int .i64 num,.int .i64 who])]) (by rw [heb];exact (MB.nil w).new #[.int .i64 10,.string path,.string dest,.int .i64 num,.int .i64 who] 47) ?_;intro W1 hW1;have HM:=zS hW1;have x1:=((HM.1.at 0 rfl).1.2 1 _ rfl).1;rw [<-heb];clear hW1 heb;go_upto_region 2 with fail;obtain ⟨nb,hnb⟩:∃ nb,nb=W1.heap.size:=⟨_,rfl⟩;refine qaa (fun W=>MB w W [(nb,[.string path]),(eb,[.int .i64 10,.string path,.string dest,.int .i64 num,.int .i64 who])]) (by rw [hnb];exact HM.1.new #[.string path] 172) ?_;intro W2 hW2;clear x1 HM;have HM:=zS hW2;obtain ⟨x0,x1,x2,x3,x4⟩:=bwb5 ((HM.1.at 1 rfl).1);have y0:=((HM.1.at 0 rfl).1.2 0 _ rfl).1;rw [<-hnb];clear hW2 hnb;go_wp2_with fail;go_ret;exact ⟨rfl,HM.1.bel⟩
theorem recordOf_any (e:EM) (w:World) (hk:1<=e.kind/\e.kind<=10) (he:EFit e):Calls Tryz.prog 64 #[ev e] w fun r w'=>r = .returned (recV e)/\Below w.heap.size w w':=by
 obtain ⟨kind,path,dest,num,who⟩:=e;obtain ⟨h1,h2⟩:=he;dsimp only at hk h1 h2;have:kind=1\/kind=2\/kind=3\/kind=4\/kind=5\/kind=6\/kind=7\/kind=8\/kind=9\/kind=10:=by omega
 rcases this with rfl | rfl | rfl | rfl | rfl | rfl | rfl | rfl | rfl | rfl
 ·exact recordOf1 path dest num who w h1
 ·exact recordOf2 path dest num who w h1
 ·exact recordOf3 path dest num who w h2
 ·exact recordOf4 path dest num who w
 ·exact recordOf5 path dest num who w
 ·exact recordOf6 path dest num who w
 ·exact recordOf7 path dest num who w
 ·exact recordOf8 path dest num who w
 ·exact recordOf9 path dest num who w
 ·exact recordOf10 path dest num who w
def idxI (p:NM->Bool) (ns:List NM):Int:=match ns.findIdx? p with
 | some i=>(i:Int)
 | none=>-1
theorem idxI_at (ns:List NM) (id:Int):idxI (fun n=>n.id==id) ns=atI ns id:=rfl
theorem test_id (r:NR) (ib:Nat) (id:Int) (w:World) (h:w.cell? ⟨ib,0,none⟩=some (.int .i64 id)) (hl:ib<w.heap.size):Calls Tryz.prog 67 #[nv r,.pointer (some ⟨ib,0,none⟩)] w fun e w'=>e = .returned (.bool (r.nd.id==id))/\Below w.heap.size w w':=by
 obtain ⟨R,hR⟩:∃ R,R=(r.nd.id==id):=⟨_,rfl⟩;rw [<-hR];go_enter Tryz.func67,Tryz.ntmps67;go_wp2_with fail;go_ret;exact ⟨by simp [*],zB.alloc zL _⟩
theorem qnw (r:NR) (gb:Nat) (a:Option Addr) (cap:Nat) (X:List Int) (w:World) (h:w.cell? ⟨gb,0,none⟩=some (.slice a X.length cap)) (hl:gb<w.heap.size) (hc:CRow w a (ics X)) (hX:X.length<=1048576):Calls Tryz.prog 252 #[nv r,.pointer (some ⟨gb,0,none⟩)] w fun e w'=>e = .returned (.bool (X.contains r.nd.id))/\Below w.heap.size w w':=by
 have HC:Sh (∀ W,Below w.heap.size w W->Calls Tryz.prog 159 #[.slice a X.length cap,.int .i64 r.nd.id] W fun e w'=>e = .returned (.bool (X.contains r.nd.id))/\w'=W):=⟨fun W hb=>qfu cap r.nd.id (hc.stays hb) hX⟩;generalize X.contains r.nd.id=R at HC ⊢;generalize X.length=m at HC h;clear hc hX;go_enter Tryz.func252,Tryz.ntmps252;go_wp2_with (go_at_call 159;refine (HC.1 _ (zB.alloc zL _)).mono ?_;rintro e w1 ⟨rfl,hw1⟩;subst hw1);go_ret;exact ⟨rfl,zB.alloc zL _⟩
theorem indexId (p:NM->Bool) (cv:Value) (hm:TR w a rs lo hi) (hn:n=rs.length) (hl:n<=1048576)
  (HC:∀ W,Below w.heap.size w W->∀ r ∈ rs,Calls Tryz.prog 67 #[nv r,cv] W fun e w'=>e = .returned (.bool (p r.nd))/\Below W.heap.size W w') :
  Calls Tryz.prog 66 #[.slice a n cap,.func (.func 67) #[] #[cv]] w fun e w'=>e = .returned (.int .i64 (idxI p (nds rs)))/\Below w.heap.size w w':=by
 obtain ⟨R,hR⟩:∃ R,R=idxI p (nds rs):=⟨_,rfl⟩;rw [<-hR];have HR:=zS hR;have HT:=zS hm;have HCC:=zS HC;have HN:=zS hn;clear hR hm HC hn;go_enter Tryz.func66,Tryz.ntmps66;go_wp2_with fail;go_loopw [8] (fun iv wr=>∃ k:Nat,iv = .int .i64 k/\k<=n/\Sh (∀ j (hj:j<rs.length),j<k->p rs[j].nd=false)/\Sh (Below w.heap.size w wr)) (fun iv _=>n - (intOf iv).toNat)
 case atStart=>exact ⟨0,rfl,Nat.zero_le _,⟨fun _ _ h=>absurd h (Nat.not_lt_zero _)⟩,⟨zB⟩⟩
 case round =>
  obtain ⟨k,rfl,hk,hno,HW⟩:=hrel
  by_cases hlt:k<n
  case pos =>
   have hkr:k<rs.length:=by have:=HN.1;omega
   have k0:(0:Int)<=(k:Int):=by omega
   have k1:(k:Int)<(n:Int):=by omega
   obtain ⟨b,off,rfl,lb,hnat⟩:=HT.1.nat (by omega);have hnk:=(hnat k hkr).below HW.1 lb;have HCK:=zS (HCC.1 wr HW.1 rs[k] (List.getElem_mem hkr));obtain ⟨r,hrk⟩:∃ r,r=rs[k]:=⟨_,rfl⟩;rw [<-hrk] at hnk HCK;have HRK:=zS hrk;obtain ⟨c0,c1,c2,c3,c4,c5,c6,c7,c8⟩:=hnk;have lb':b<wr.heap.size:=Nat.lt_of_lt_of_le lb HW.1.size;obtain ⟨q,hq⟩:∃ q,q=p r.nd:=⟨_,rfl⟩;rw [<-hq] at HCK;have HQ:=zS hq;clear hnat hrk hq
   cases q with
   | true =>
    have HE:Sh (R=(k:Int)):=⟨by
     rw [HR.1];unfold idxI
     have:(nds rs).findIdx? p=some k:=by
      rw [List.findIdx?_eq_some_iff_getElem];refine ⟨by rw [qaf];exact hkr,by simp only [nds,List.getElem_map];rw [<-HRK.1,<-HQ.1],fun j hj=>?_⟩;have:=hno.1 j (by omega) hj;simp only [nds,List.getElem_map];rw [this];simp
     rw [this]⟩
    go_wp2_with (go_at_call 67;refine HCK.1.mono ?_;rintro e w1 ⟨rfl,hb1⟩;have HB1:=zS (HW.1.trans (hb1.mono HW.1.size));clear hb1);go_ret;exact ⟨by rw [HE.1];rfl,HB1.1⟩
   | false =>
    go_wp2_with (go_at_call 67;refine HCK.1.mono ?_;rintro e w1 ⟨rfl,hb1⟩;have HB1:=zS (HW.1.trans (hb1.mono HW.1.size));clear hb1);go_roundw
    case rel =>
     refine ⟨k+1,by go_num,by omega,⟨fun j hj hjk=>?_⟩,HB1⟩;rcases Nat.lt_succ_iff_lt_or_eq.1 hjk with h | h
     ·exact hno.1 j hj h
     ·subst h
      rw [<-HRK.1,<-HQ.1]
    case measure=>simp [intOf];omega
  case neg =>
   have k1:¬ (k:Int)<(n:Int):=by omega
   have HE:Sh (R = -1):=⟨by
    rw [HR.1];unfold idxI
    have:(nds rs).findIdx? p=none:=by
     rw [List.findIdx?_eq_none_iff];intro x hx;obtain ⟨r,hr,rfl⟩:=List.mem_map.1 hx;obtain ⟨j,hj,rfl⟩:=List.getElem_of_mem hr;exact hno.1 j hj (by have:=HN.1;omega)
    rw [this]⟩
   go_wp2_with fail;go_ret;exact ⟨by rw [HE.1];rfl,HW.1⟩
theorem indexGone (p:NM->Bool) (cv:Value) (hm:TR w a rs lo hi) (hn:n=rs.length) (hl:n<=1048576)
  (HC:∀ W,Below w.heap.size w W->∀ r ∈ rs,Calls Tryz.prog 252 #[nv r,cv] W fun e w'=>e = .returned (.bool (p r.nd))/\Below W.heap.size W w') :
  Calls Tryz.prog 66 #[.slice a n cap,.func (.func 252) #[] #[cv]] w fun e w'=>e = .returned (.int .i64 (idxI p (nds rs)))/\Below w.heap.size w w':=by
 obtain ⟨R,hR⟩:∃ R,R=idxI p (nds rs):=⟨_,rfl⟩;rw [<-hR];have HR:=zS hR;have HT:=zS hm;have HCC:=zS HC;have HN:=zS hn;clear hR hm HC hn;go_enter Tryz.func66,Tryz.ntmps66;go_wp2_with fail;go_loopw [8] (fun iv wr=>∃ k:Nat,iv = .int .i64 k/\k<=n/\Sh (∀ j (hj:j<rs.length),j<k->p rs[j].nd=false)/\Sh (Below w.heap.size w wr)) (fun iv _=>n - (intOf iv).toNat)
 case atStart=>exact ⟨0,rfl,Nat.zero_le _,⟨fun _ _ h=>absurd h (Nat.not_lt_zero _)⟩,⟨zB⟩⟩
 case round =>
  obtain ⟨k,rfl,hk,hno,HW⟩:=hrel
  by_cases hlt:k<n
  case pos =>
   have hkr:k<rs.length:=by have:=HN.1;omega
   have k0:(0:Int)<=(k:Int):=by omega
   have k1:(k:Int)<(n:Int):=by omega
   obtain ⟨b,off,rfl,lb,hnat⟩:=HT.1.nat (by omega);have hnk:=(hnat k hkr).below HW.1 lb;have HCK:=zS (HCC.1 wr HW.1 rs[k] (List.getElem_mem hkr));obtain ⟨r,hrk⟩:∃ r,r=rs[k]:=⟨_,rfl⟩;rw [<-hrk] at hnk HCK;have HRK:=zS hrk;obtain ⟨c0,c1,c2,c3,c4,c5,c6,c7,c8⟩:=hnk;have lb':b<wr.heap.size:=Nat.lt_of_lt_of_le lb HW.1.size;obtain ⟨q,hq⟩:∃ q,q=p r.nd:=⟨_,rfl⟩;rw [<-hq] at HCK;have HQ:=zS hq;clear hnat hrk hq
   cases q with
   | true =>
    have HE:Sh (R=(k:Int)):=⟨by
     rw [HR.1];unfold idxI
     have:(nds rs).findIdx? p=some k:=by
      rw [List.findIdx?_eq_some_iff_getElem];refine ⟨by rw [qaf];exact hkr,by simp only [nds,List.getElem_map];rw [<-HRK.1,<-HQ.1],fun j hj=>?_⟩;have:=hno.1 j (by omega) hj;simp only [nds,List.getElem_map];rw [this];simp
     rw [this]⟩
    go_wp2_with (go_at_call 252;refine HCK.1.mono ?_;rintro e w1 ⟨rfl,hb1⟩;have HB1:=zS (HW.1.trans (hb1.mono HW.1.size));clear hb1);go_ret;exact ⟨by rw [HE.1];rfl,HB1.1⟩
   | false =>
    go_wp2_with (go_at_call 252;refine HCK.1.mono ?_;rintro e w1 ⟨rfl,hb1⟩;have HB1:=zS (HW.1.trans (hb1.mono HW.1.size));clear hb1);go_roundw
    case rel =>
     refine ⟨k+1,by go_num,by omega,⟨fun j hj hjk=>?_⟩,HB1⟩;rcases Nat.lt_succ_iff_lt_or_eq.1 hjk with h | h
     ·exact hno.1 j hj h
     ·subst h
      rw [<-HRK.1,<-HQ.1]
    case measure=>simp [intOf];omega
  case neg =>
   have k1:¬ (k:Int)<(n:Int):=by omega
   have HE:Sh (R = -1):=⟨by
    rw [HR.1];unfold idxI
    have:(nds rs).findIdx? p=none:=by
     rw [List.findIdx?_eq_none_iff];intro x hx;obtain ⟨r,hr,rfl⟩:=List.mem_map.1 hx;obtain ⟨j,hj,rfl⟩:=List.getElem_of_mem hr;exact hno.1 j hj (by have:=HN.1;omega)
    rw [this]⟩
   go_wp2_with fail;go_ret;exact ⟨by rw [HE.1];rfl,HW.1⟩
structure SS (w0 W:World) (L:List (Nat × List Value)) (B:Nat) (a:Option Addr) (n cap:Nat) (rs:List NR):Prop where
 mb:MB w0 W L
 nb:NB W B (.slice a n cap) rs
 len:rs.length=n
 ap:∀ p ∈ L,(∀ q,a=some q->q.block ≠ p.1)/\∀ r ∈ rs,∀ q,r.loc=some q->q.block ≠ p.1
 lo:w0.heap.size<=B
theorem SS.below (h:SS w0 W L B a n cap rs) (hb:Below W.heap.size W W'):SS w0 W' L B a n cap rs:=
 ⟨h.mb.below hb,h.nb.below hb,h.len,h.ap,h.lo⟩
theorem SS.less {p:Nat × List Value} (h:SS w0 W (p::L) B a n cap rs):SS w0 W L B a n cap rs:=
 ⟨h.mb.less,h.nb,h.len,fun q hq=>h.ap q (List.mem_cons_of_mem _ hq),h.lo⟩
theorem NB.row_lt (h:NB w B (.slice a n cap) rs):∀ q,a=some q->q.block<w.heap.size:=fun q e=>(h.own.lt q.block (by rw [e];rfl)).2
theorem SS.new (h:SS w0 W L B a n cap rs) (cs:Array Value) (t:TypeId):SS w0 (W.alloc (.cells cs t)) ((W.heap.size,cs.toList)::L) B a n cap rs:=by
 have hb:Below W.heap.size W (W.alloc (.cells cs t)):=zB.alloc zL _;refine ⟨h.mb.new cs t,h.nb.below hb,h.len,fun p hp=>?_,h.lo⟩;rcases List.mem_cons.1 hp with rfl | hp
 ·refine ⟨fun q e=>?_,fun r hr q e=>?_⟩
  ·have:=h.nb.row_lt q e
   show q.block ≠ W.heap.size
   omega
  ·have:=h.nb.lts r hr q e
   show q.block ≠ W.heap.size
   omega
 ·exact h.ap p hp
theorem SS.put (h:SS w0 W L B (some ⟨g,0,none⟩) n cap rs) (hk:rs[k]?=some r) (f:Nat) (hf:f<9) (x:Value) (r':NR) (hc:qaj r'=(qaj r).set f x) (hl:r'.loc=r.loc) (hcp:r'.cap=r.cap) (hp:r'.nd.pieces=r.nd.pieces) :
  SS w0 (W.setCell ⟨g,k*9+f,none⟩ x) L B (some ⟨g,0,none⟩) n cap (rs.set k r'):=by
 obtain ⟨hk',e⟩:=List.getElem?_eq_some_iff.1 hk;have hg:B<=g:=(h.nb.own.lt g rfl).1;refine ⟨h.mb.far (qam W g (k*9+f) x) (fun p hp e=>(h.ap p hp).1 ⟨g,0,none⟩ rfl (by cases e;rfl)) (fun q e=>by cases e;have:=h.lo;omega),h.nb.putK h.len hk f hf x r' hc hl hcp hp,by rw [List.length_set];exact h.len,fun p hp=>⟨(h.ap p hp).1,fun s hs q eq=>?_⟩,h.lo⟩;rcases List.mem_or_eq_of_mem_set hs with m | m
 ·exact (h.ap p hp).2 s m q eq
 ·rw [m,hl] at eq
  exact (h.ap p hp).2 r (by rw [<-e];exact List.getElem_mem hk') q eq
theorem SS.setBox (h:SS w0 W L B a n cap rs) (i:Nat) {b:Nat} {X:List Value} (hi:L[i]?=some (b,X)) (j:Nat) (v:Value) (hj:j<X.length):SS w0 (W.setCell ⟨b,j,none⟩ v) (L.set i (b,X.set j v)) B a n cap rs:=by
 have hm:(b,X) ∈ L:=List.mem_of_getElem? hi;refine ⟨h.mb.put i hi j v hj,h.nb.setAway b j v (fun e=>?_) (fun r hr q e=>(h.ap _ hm).2 r hr q e),h.len,fun p hp=>?_,h.lo⟩
 ·cases a with
  | none=>cases e
  | some q =>
   simp [Value.ownBlock] at e;exact (h.ap _ hm).1 q rfl e
 ·rcases List.mem_or_eq_of_mem_set hp with q | q
  ·exact h.ap p q
  ·rw [q]
   have:=h.ap _ hm;exact this
theorem SS.cell (h:SS w0 W L B (some ⟨g,0,none⟩) n cap rs) (hk:rs[k]?=some r) (f:Nat) (v:Value) (hv:(qaj r)[f]?=some v):W.cell? ⟨g,k*9+f,none⟩=some v/\W.frozen? ⟨g,k*9+f,none⟩=false:=h.nb.cellK h.len hk f v hv
theorem chSchema (h:SS w0 W L B (some ⟨g,0,none⟩) n cap rs) (hk:rs[k]?=some r) (tp:Value) (path:ByteArray) (num:Int) (gr:Int):Calls Tryz.prog 253 #[.agg #[.string path,.int .i64 num],tp,.pointer (some ⟨g,k*9,none⟩),.int .i64 gr] W fun e w'=>e = .returned (.tuple #[])/\SS w0 w' L B (some ⟨g,0,none⟩) n cap (rs.set k ⟨{ r.nd with schema:=num },r.loc,r.cap⟩):=by
 have HS:=zS (h.new #[.string path,.int .i64 num] 185);have HK:=zS hk;obtain ⟨c0,f0⟩:=HS.1.cell hk 4 _ rfl;obtain ⟨x0,x1⟩:=bwb2 ((HS.1.mb.at 0 rfl).1);clear h hk;go_enter Tryz.func253,Tryz.ntmps253;go_wp2_with fail;refine qad (fun w9=>SS w0 w9 L B (some ⟨g,0,none⟩) n cap (rs.set k ⟨{ r.nd with schema:=num },r.loc,r.cap⟩)) ((HS.1.put HK.1 4 (by omega) (.int .i64 num) ⟨{ r.nd with schema:=num },r.loc,r.cap⟩ rfl rfl rfl rfl).less) ?_;intro w9 h9;refine bodyPost_end (v:=.tuple #[]) (by simp [results,Tryz.results253,go_sem]) rfl ⟨rfl,h9⟩
theorem chQuota (h:SS w0 W L B (some ⟨g,0,none⟩) n cap rs) (hk:rs[k]?=some r) (tp:Value) (path:ByteArray) (num:Int) (gr:Int):Calls Tryz.prog 254 #[.agg #[.string path,.int .i64 num],tp,.pointer (some ⟨g,k*9,none⟩),.int .i64 gr] W fun e w'=>e = .returned (.tuple #[])/\SS w0 w' L B (some ⟨g,0,none⟩) n cap (rs.set k ⟨{ r.nd with quota:=num },r.loc,r.cap⟩):=by
 have HS:=zS (h.new #[.string path,.int .i64 num] 187);have HK:=zS hk;obtain ⟨c0,f0⟩:=HS.1.cell hk 5 _ rfl;obtain ⟨x0,x1⟩:=bwb2 ((HS.1.mb.at 0 rfl).1);clear h hk;go_enter Tryz.func254,Tryz.ntmps254;go_wp2_with fail;refine qad (fun w9=>SS w0 w9 L B (some ⟨g,0,none⟩) n cap (rs.set k ⟨{ r.nd with quota:=num },r.loc,r.cap⟩)) ((HS.1.put HK.1 5 (by omega) (.int .i64 num) ⟨{ r.nd with quota:=num },r.loc,r.cap⟩ rfl rfl rfl rfl).less) ?_;intro w9 h9;refine bodyPost_end (v:=.tuple #[]) (by simp [results,Tryz.results254,go_sem]) rfl ⟨rfl,h9⟩
theorem chClose (h:SS w0 W L B (some ⟨g,0,none⟩) n cap rs) (hk:rs[k]?=some r) (tp:Value) (path:ByteArray) (gr:Int):Calls Tryz.prog 256 #[.agg #[.string path],tp,.pointer (some ⟨g,k*9,none⟩),.int .i64 gr] W fun e w'=>e = .returned (.tuple #[])/\SS w0 w' L B (some ⟨g,0,none⟩) n cap (rs.set k ⟨{ r.nd with writer:=0 },r.loc,r.cap⟩):=by
 have HS:=zS (h.new #[.string path] 190);have HK:=zS hk;obtain ⟨c0,f0⟩:=HS.1.cell hk 8 _ rfl;have x0:=((HS.1.mb.at 0 rfl).1.2 0 _ rfl).1;clear h hk;go_enter Tryz.func256,Tryz.ntmps256;go_wp2_with fail;refine qad (fun w9=>SS w0 w9 L B (some ⟨g,0,none⟩) n cap (rs.set k ⟨{ r.nd with writer:=0 },r.loc,r.cap⟩)) ((HS.1.put HK.1 8 (by omega) (.int .i64 0) ⟨{ r.nd with writer:=0 },r.loc,r.cap⟩ rfl rfl rfl rfl).less) ?_;intro w9 h9;refine bodyPost_end (v:=.tuple #[]) (by simp [results,Tryz.results256,go_sem]) rfl ⟨rfl,h9⟩
theorem chOpen (h:SS w0 W L B (some ⟨g,0,none⟩) n cap rs) (hk:rs[k]?=some r) (tp:Value) (path:ByteArray) (who:Int) (gr:Int):Calls Tryz.prog 257 #[.agg #[.string path,.int .i64 who],tp,.pointer (some ⟨g,k*9,none⟩),.int .i64 gr] W fun e w'=>e = .returned (.tuple #[])/\SS w0 w' L B (some ⟨g,0,none⟩) n cap (rs.set k ⟨{ r.nd with writer:=who },r.loc,r.cap⟩):=by
 have HS:=zS (h.new #[.string path,.int .i64 who] 192);have HK:=zS hk;obtain ⟨c0,f0⟩:=HS.1.cell hk 8 _ rfl;obtain ⟨x0,x1⟩:=bwb2 ((HS.1.mb.at 0 rfl).1);clear h hk;go_enter Tryz.func257,Tryz.ntmps257;go_wp2_with fail;refine qad (fun w9=>SS w0 w9 L B (some ⟨g,0,none⟩) n cap (rs.set k ⟨{ r.nd with writer:=who },r.loc,r.cap⟩)) ((HS.1.put HK.1 8 (by omega) (.int .i64 who) ⟨{ r.nd with writer:=who },r.loc,r.cap⟩ rfl rfl rfl rfl).less) ?_;intro w9 h9;refine bodyPost_end (v:=.tuple #[]) (by simp [results,Tryz.results257,go_sem]) rfl ⟨rfl,h9⟩
theorem chBoot (w:World) (path:ByteArray) (tp np:Value) (gr:Int):Calls Tryz.prog 258 #[.agg #[.string path],tp,np,.int .i64 gr] w fun e w'=>e = .returned (.tuple #[])/\Below w.heap.size w w':=by
 go_enter Tryz.func258,Tryz.ntmps258;go_wp2_with fail;refine qad (fun w9=>Below w.heap.size w w9) (by first | exact zB | exact zB.alloc zL _) ?_;intro w9 h9;refine bodyPost_end (v:=.tuple #[]) (by simp [results,Tryz.results258,go_sem]) rfl ⟨rfl,h9⟩
theorem NB.grow0 {new:PM} (h:NB w B (.slice (some ⟨g,0,none⟩) n cap) rs) (hn:rs.length=n) (hk:rs[k]?=some r) (hba:Below w.heap.size w W1) (hgrow:W1.grownBy w5 (Value.slice r.loc r.nd.pieces.length r.cap).ownBlock)
  (ho:w5.ownsRow B 143 2 (.slice (some ⟨gg,0,none⟩) (r.nd.pieces.length+1) cap1) (r.nd.pieces.length+1) (pcs r.nd.pieces++qei new)) (hat:(Value.slice r.loc r.nd.pieces.length r.cap).ownBlock=some gg\/w.heap.size<=gg) :
  NB (w5.setCell ⟨g,k*9+7,none⟩ (.slice (some ⟨gg,0,none⟩) (r.nd.pieces.length+1) cap1)) B (.slice (some ⟨g,0,none⟩) n cap) (rs.set k ⟨{ r.nd with pieces:=r.nd.pieces++[new] },some ⟨gg,0,none⟩,cap1⟩):=by
 subst hn;obtain ⟨hk',er⟩:=List.getElem?_eq_some_iff.1 hk;subst er;have hN:=h.below hba;have hlt:∀ s ∈ rs,∀ q,s.loc=some q->q.block<w.heap.size:=fun s hs q e=>((h.rows s hs).lt q.block (by rw [e];rfl)).2;obtain ⟨cg,hcg⟩:=qau hN.own (show (Value.slice (some ⟨g,0,none⟩) rs.length cap).ownBlock=some g from rfl)
 have hgo:(Value.slice rs[k].loc rs[k].nd.pieces.length rs[k].cap).ownBlock ≠ some g:=fun e=>by
  obtain ⟨c1,h1⟩:=qau (hN.rows _ (List.getElem_mem hk')) e;rw [hcg] at h1;simp at h1
 have hown5:=hN.own.kept hgrow (.inr (by intro e;exact hgo e.symm))
 have hggg:gg ≠ g:=by
  have hgl:=(h.own.lt g rfl).2;rcases hat with e | e
  ·intro e2;rw [e2] at e;exact hgo e
  ·omega
 have hst:=(hown5.stored (k*9+7) (.slice (some ⟨gg,0,none⟩) (rs[k].nd.pieces.length+1) cap1)).1;have ha:=List.pairwise_iff_getElem.1 h.apart
 have hap:∀ j (hj:j<rs.length),j ≠ k->rs[j].loc ≠ none->rs[k].loc ≠ none->rs[j].loc ≠ rs[k].loc:=fun j hj hjk h1 h2=>by
  rcases Nat.lt_or_gt_of_ne hjk with q | q
  ·exact ha j k hj hk' q h1 h2
  ·exact fun e=>ha k j hk' hj q h2 h1 e.symm
 refine ⟨?_,fun s hs=>?_,?_⟩
 ·rw [List.length_set,<-qih rs k hk' 7 (by omega) (.slice (some ⟨gg,0,none⟩) (rs[k].nd.pieces.length+1) cap1) _ (by simp [qaj])]
  exact hst
 ·obtain ⟨j,hj,rfl⟩:=List.mem_iff_getElem.1 hs
  rw [List.length_set] at hj;rw [List.getElem_set];split
  ·have e:pcs (rs[k].nd.pieces++[new])=pcs rs[k].nd.pieces++qei new:=by simp [pcs]
   show World.ownsRow _ _ _ _ (.slice (some ⟨gg,0,none⟩) (rs[k].nd.pieces++[new]).length cap1) (rs[k].nd.pieces++[new]).length (pcs (rs[k].nd.pieces++[new]))
   rw [e,List.length_append,List.length_singleton];exact ho.kept (qam _ _ _ _) (.inr (by simp [Value.ownBlock];exact hggg))
  ·rename_i hjk
   have h1:w5.ownsRow B 143 2 (.slice rs[j].loc rs[j].nd.pieces.length rs[j].cap) rs[j].nd.pieces.length (pcs rs[j].nd.pieces):=by
    refine (hN.rows _ (List.getElem_mem hj)).kept hgrow ?_
    cases e:rs[j].loc with
    | none=>exact .inl rfl
    | some q =>
     refine .inr fun e2=>?_
     cases e3:rs[k].loc with
     | none=>rw [e3] at e2;cases e2
     | some q' =>
      have hne:=hap j hj (fun e=>hjk e.symm) (by rw [e];simp) (by rw [e3];simp);rw [e,e3] at hne;rw [e3] at e2;have z1:=qgf (by have:=h.rows _ (List.getElem_mem hj);rw [e] at this;exact this);have z2:=qgf (by have:=h.rows _ (List.getElem_mem hk');rw [e3] at this;exact this);simp [Value.ownBlock] at e2;exact hne (by rw [z1,z2,e2])
   refine h1.kept (qam _ _ _ _) ?_
   cases e:rs[j].loc with
   | none=>exact .inl rfl
   | some q =>
    refine .inr fun e2=>?_;obtain ⟨c1,h2⟩:=qau (hN.rows _ (List.getElem_mem hj)) (by rw [e];exact e2);rw [hcg] at h2;simp at h2
 ·have hnew:∀ j (hj:j<rs.length),j ≠ k->rs[j].loc ≠ some ⟨gg,0,none⟩:=fun j hj hjk e=>by
   rcases hat with q | q
   ·cases e3:rs[k].loc with
    | none=>rw [e3] at q;cases q
    | some q' =>
     rw [e3] at q;have z2:=qgf (by have:=h.rows _ (List.getElem_mem hk');rw [e3] at this;exact this);simp [Value.ownBlock] at q;exact hap j hj hjk (by rw [e];simp) (by rw [e3];simp) (by rw [e,e3,z2,q])
   ·have:=hlt _ (List.getElem_mem hj) _ e
    simp at this;omega
  refine List.pairwise_iff_getElem.2 fun a b ha' hb' hab=>?_;rw [List.length_set] at ha' hb';rw [List.getElem_set,List.getElem_set];split
  ·rename_i h1
   rw [if_neg (by omega)];intro _ _ e;exact hnew b hb' (by omega) e.symm
  ·split
   ·rename_i h1 h2
    intro _ _ e;exact hnew a ha' (by omega) e
   ·exact ha a b ha' hb' hab
theorem SS.grow {new:PM} (h:SS w0 W L B (some ⟨g,0,none⟩) n cap rs) (hk:rs[k]?=some r) (hba:Below W.heap.size W W1) (hgrow:W1.grownBy w5 (Value.slice r.loc r.nd.pieces.length r.cap).ownBlock)
  (ho:w5.ownsRow B 143 2 (.slice (some ⟨gg,0,none⟩) (r.nd.pieces.length+1) cap1) (r.nd.pieces.length+1) (pcs r.nd.pieces++qei new)) (hat:(Value.slice r.loc r.nd.pieces.length r.cap).ownBlock=some gg\/W.heap.size<=gg) :
  SS w0 (w5.setCell ⟨g,k*9+7,none⟩ (.slice (some ⟨gg,0,none⟩) (r.nd.pieces.length+1) cap1)) L B (some ⟨g,0,none⟩) n cap (rs.set k ⟨{ r.nd with pieces:=r.nd.pieces++[new] },some ⟨gg,0,none⟩,cap1⟩):=by
 obtain ⟨hk',er⟩:=List.getElem?_eq_some_iff.1 hk;have hmem:r ∈ rs:=by rw [<-er];exact List.getElem_mem hk'
 have hgB:B<=g:=(h.nb.own.lt g rfl).1
 have hfar:∀ p ∈ L,(Value.slice r.loc r.nd.pieces.length r.cap).ownBlock ≠ some p.1:=fun p hp e=>by
  cases hl:r.loc with
  | none=>rw [hl] at e;cases e
  | some q =>
   rw [hl] at e;simp [Value.ownBlock] at e;exact (h.ap p hp).2 r hmem q hl e
 refine ⟨((h.mb.below hba).far hgrow hfar (fun q e=>?_)).far (qam w5 g _ _) (fun p hp e=>(h.ap p hp).1 ⟨g,0,none⟩ rfl (by cases e;rfl)) (fun q e=>by cases e;show w0.heap.size<=g;have:=h.lo;omega),h.nb.grow0 h.len hk hba hgrow ho hat,by rw [List.length_set];exact h.len,fun p hp=>⟨(h.ap p hp).1,fun s hs q e=>?_⟩,h.lo⟩
 ·have:=((h.nb.rows r hmem).lt q e).1
  have:=h.lo;omega
 ·rcases List.mem_or_eq_of_mem_set hs with m | m
  ·exact (h.ap p hp).2 s m q e
  ·rw [m] at e
   cases e
   show gg ≠ p.1
   rcases hat with e | e
   ·exact fun e2=>hfar p hp (by rw [e,e2])
   ·have:=(h.mb.box p hp).1.1
    omega
theorem SS.add (h:SS w0 W L B a n cap rs) (hb:Below W.heap.size W W') {gl:Nat} {X:List Value} (hX:WCells W' gl X) (hl:W.heap.size<=gl):SS w0 W' ((gl,X)::L) B a n cap rs:=by
 have h':=h.below hb;refine ⟨⟨fun p hp=>?_,List.pairwise_cons.2 ⟨fun p hp=>?_,h'.mb.dist⟩,h'.mb.bel⟩,h'.nb,h'.len,fun p hp=>?_,h'.lo⟩
 ·rcases List.mem_cons.1 hp with rfl | hp
  ·exact ⟨hX,Nat.le_trans h.mb.bel.size hl⟩
  ·exact h'.mb.box p hp
 ·have:=(h.mb.box p hp).1.1
  show gl ≠ p.1
  omega
 ·rcases List.mem_cons.1 hp with rfl | hp
  ·refine ⟨fun q e=>?_,fun r hr q e=>?_⟩
   ·have:=h.nb.row_lt q e
    show q.block ≠ gl
    omega
   ·have:=h.nb.lts r hr q e
    show q.block ≠ gl
    omega
  ·exact h'.ap p hp
theorem chAdd (h:SS w0 W L B (some ⟨g,0,none⟩) n cap rs) (hk:rs[k]?=some r) (tp:Value) (path:ByteArray) (num gr:Int) (hne:qaw r.nd.schema num ≠ []) (hsl:(qaw r.nd.schema num).length<=1000) (hpl:r.nd.pieces.length<=1000) (hln:0<=r.nd.len/\r.nd.len<=1000) (hnum:0<=num/\num<=1000) (hgr:0<=gr/\gr<=1000000) :
  Calls Tryz.prog 255 #[.agg #[.string path,.int .i64 num],tp,.pointer (some ⟨g,k*9,none⟩),.int .i64 gr] W fun e w'=>e = .returned (.tuple #[])/\∃ lc cp,SS w0 w' L B (some ⟨g,0,none⟩) n cap (rs.set k (⟨{ r.nd with pieces:=r.nd.pieces++newP gr (qaw r.nd.schema num),len:=r.nd.len+num },lc,cp⟩:NR)):=by
 obtain ⟨j0,hjn,hy0,hy1,hy2⟩:=info_parts qgh;have HSP:=zS (fun W'=>qov r.nd.schema num W');unfold IPost at HSP;obtain ⟨ls,hls⟩:∃ ls,ls=qaw r.nd.schema num:=⟨_,rfl⟩;rw [<-hls] at HSP hne hsl ⊢;have HNE:=zS hne;have HS:=zS h;have HK:=zS hk;have hkr:k<rs.length:=(List.getElem?_eq_some_iff.1 hk).1
 have hrk:rs.set k r=rs:=by
  obtain ⟨hk',e⟩:=List.getElem?_eq_some_iff.1 hk;rw [<-e,List.set_getElem_self]
 have HRK:=zS hrk;obtain ⟨schema,hsch⟩:∃ q,q=r.nd.schema:=⟨_,rfl⟩;obtain ⟨ln,hlnn⟩:∃ q,q=r.nd.len:=⟨_,rfl⟩;have HSCH:=zS hsch;have HLN:=zS hlnn;rw [<-hsch] at HSP;rw [<-hlnn] at hln;clear h hk hls hne hrk hsch hlnn;go_enter Tryz.func255,Tryz.ntmps255;go_upto_region 1 with fail;obtain ⟨rb,hrb⟩:∃ rb,rb=W.heap.size:=⟨_,rfl⟩;refine qaa (fun V=>SS w0 V ((rb,[.string path,.int .i64 num])::L) B (some ⟨g,0,none⟩) n cap rs) (by rw [hrb];exact HS.1.new #[.string path,.int .i64 num] 189) ?_;intro W1 hS1;have HS1:=zS hS1;rw [<-hrb];clear hS1 hrb HS
 have HLE:Sh (∀ x,Later W1.drew x->x.cell? ⟨g,k*9+4,none⟩=some (.int .i64 schema)/\x.cell? ⟨rb,1,none⟩=some (.int .i64 num)):=⟨fun x hx=>by
  have S:=HS1.1.below (Below.trans zD hx)
  exact ⟨by rw [HSCH.1];exact (S.cell HK.1 4 _ rfl).1,((S.mb.at 0 rfl).1.2 1 _ rfl).1⟩⟩
 refine qas 9 (by kernel_rfl) ?_;refine wpK_v 0 rfl (fun x hx=>by obtain ⟨d0,d1⟩:=HLE.1 x hx;go_simp;try with_reducible rfl) ?_
 try simp only [Act.put,qA,qB,qC]
 refine wpK_v 1 rfl (fun x hx=>by obtain ⟨d0,d1⟩:=HLE.1 x hx;go_simp;try with_reducible rfl) ?_
 try simp only [Act.put,qA,qB,qC]
 refine wpK_v 2 rfl (fun x hx=>by obtain ⟨d0,d1⟩:=HLE.1 x hx;go_simp;try with_reducible rfl) ?_
 try simp only [Act.put,qA,qB,qC]
 refine wpK_v 3 rfl (fun x hx=>by obtain ⟨d0,d1⟩:=HLE.1 x hx;go_simp;try with_reducible rfl) ?_
 try simp only [Act.put,qA,qB,qC]
 refine wpK_v 4 rfl (fun x hx=>by obtain ⟨d0,d1⟩:=HLE.1 x hx;go_simp;try with_reducible rfl) ?_
 try simp only [Act.put,qA,qB,qC]
 refine wpK_v 5 rfl (fun x hx=>by obtain ⟨d0,d1⟩:=HLE.1 x hx;go_simp;try with_reducible rfl) ?_
 try simp only [Act.put,qA,qB,qC]
 refine wpK_v 8 rfl (fun x hx=>by obtain ⟨d0,d1⟩:=HLE.1 x hx;go_simp;try with_reducible rfl) ?_
 try simp only [Act.put,qA,qB,qC]
 refine qeb (f:=125) (args:=#[.int .i64 schema,.int .i64 num]) (i:=6) (by kernel_rfl) rfl (by rfl) (fun x hx=>by go_simp) (fun x hx=>(HSP.1 x).mono ?_);rintro e y ⟨sv,rfl,hia,hby⟩;refine ⟨_,rfl,hby,?_⟩;obtain ⟨sa,sc,rfl,-,hor⟩:=hia;obtain ⟨gl,rfl,hgl1,hgl2,hwl⟩:=hor.resolve_left HNE.1;have hb1x:Below W1.heap.size W1 x:=Below.trans zD hx;have HSY:=zS ((HS1.1.below hb1x).add hby hwl hgl1);obtain ⟨m,hm⟩:∃ m,m=ls.length:=⟨_,rfl⟩;have HML:=zS hm;rw [<-hm] at hsl ⊢;clear hx hby hor hgl1 hgl2 hwl hb1x HLE HS1 hm HSP
 try simp only [Act.put,qA,qB,qC]
 refine qkb (i:=7) (v:=.int .i64 m) rfl (by kernel_rfl) (by kernel_rfl) (by kernel_rfl) (by kernel_rfl) (fun _ _ _ h=>h) (by rfl) ?hy7 ?rest7
 case hy7=>(intro x hx;go_simp;try with_reducible rfl)
 try simp only [Act.put,qA,qB,qC]
 refine qmr (by kernel_rfl) ?_ _;intro z hz;replace HSY:=zS (HSY.1.below hz);clear hz;go_wp2_with fail;go_loopw [18] (fun iv wr=>∃ (j:Nat) (lc:Option Addr) (cp:Nat),iv = .int .i64 j/\j<=m/\Sh (SS w0 wr ((gl,ics ls)::(rb,[.string path,.int .i64 num])::L) B (some ⟨g,0,none⟩) n cap (rs.set k (⟨{ r.nd with pieces:=r.nd.pieces++newP gr (ls.take j) },lc,cp⟩:NR)))) (fun iv _=>m - (intOf iv).toNat)
 case atStart=>exact ⟨0,r.loc,r.cap,rfl,Nat.zero_le _,⟨by
  have:(⟨{ r.nd with pieces:=r.nd.pieces++newP gr (ls.take 0) },r.loc,r.cap⟩:NR)=r:=by simp [newP]
  rw [this,HRK.1]
  exact HSY.1⟩⟩
 case round =>
  clear HSY;obtain ⟨j,lc,cp,rfl,hj,hS⟩:=hrel;obtain ⟨wo,rfl⟩:∃ wo,wo=wr:=⟨_,rfl⟩;obtain ⟨ps,hps⟩:∃ ps,ps=r.nd.pieces++newP gr (ls.take j):=⟨_,rfl⟩;have HPS:=zS hps;have hpsl:ps.length=r.nd.pieces.length+j:=by rw [hps,List.length_append,qff,List.length_take];have:=HML.1;omega
  rw [<-hps] at hS;clear hps;have hk2:(rs.set k (⟨{ r.nd with pieces:=ps },lc,cp⟩:NR))[k]?=some (⟨{ r.nd with pieces:=ps },lc,cp⟩:NR):=List.getElem?_set_self hkr
  by_cases hlt:j<m
  case pos =>
   have hjl:j<ls.length:=by have:=HML.1;omega
   have k0:(0:Int)<=(j:Int):=by omega
   have k1:(j:Int)<(m:Int):=by omega
   have hnt:=qne gr ls j hjl;obtain ⟨lj,hlj⟩:∃ lj,lj=ls[j]:=⟨_,rfl⟩;have e0:=((hS.1.mb.at 0 rfl).1.2 j (.int .i64 lj) (by rw [hlj];simp [ics,hjl])).1;rw [<-hlj] at hnt;have HNT:Sh (r.nd.pieces++newP gr (ls.take (j+1))=ps++[(⟨gr+j,lj⟩:PM)]):=⟨by rw [hnt,<-List.append_assoc,<-HPS.1]⟩;obtain ⟨c7,f7⟩:=hS.1.cell hk2 7 _ rfl;dsimp only at c7;have hrow:=hS.1.nb.rows _ (List.mem_of_getElem? hk2);dsimp only at hrow;obtain ⟨pl,hpl9⟩:∃ pl,pl=ps.length:=⟨_,rfl⟩;rw [<-hpl9] at c7 hrow hpsl;have HPL:=zS hpl9;have hwr:IntKind.i64.wrap (gr+(j:Int))=gr+(j:Int):=IntWalk.i64_in _ ⟨by omega,by omega⟩;have hBW:B<=wo.heap.size:=by have:=hS.1.nb.own.lt g rfl;omega
   have hplb:pl<=2000:=by omega
   clear hlj hnt hpl9 hpsl;go_wp2_with (at_builtin;refine wpList_append_lies _ rfl _ _ 88 rfl B 143 j0 _ 2 16 Tryz.underlying88 hjn hy0 hy1 hy2 rfl (by decide) (.slice lc pl cp) pl (pcs ps) rfl (hrow.alloc _) ⟨wo.heap.size,0,none⟩ 1 1 [.int .i64 (gr+j),.int .i64 lj] rfl rfl (World.news_of_block (cs:=#[.int .i64 (gr+j),.int .i64 lj]) (t:=143) (fr:=(0,0)) (heap_alloc_new wo _)) ?c2 (by decide) ?c4 ?c5 ?c6 (wo.heap.size+1) (by simp) ?_)
   case c2=>simp [Value.oneCell']
   case c4=>unfold maxLen;omega
   case c5=>omega
   case c6=>first | omega | (simp;omega)
   intro gg cap1 w5 hown1 hgrow hat hlt';have HG:=zS (hS.1.grow (r:=(⟨{ r.nd with pieces:=ps },lc,cp⟩:NR)) (new:=⟨gr+j,lj⟩) hk2 (zB.alloc zL _) (by rw [<-HPL.1];exact hgrow) (by rw [<-HPL.1];exact hown1) (by rw [<-HPL.1];exact hat.imp id (fun e=>by omega)));rw [<-HPL.1] at HG;have HN2:Sh ((⟨{ r.nd with pieces:=ps++[(⟨gr+j,lj⟩:PM)] },some ⟨gg,0,none⟩,cap1⟩:NR)=⟨{ r.nd with pieces:=r.nd.pieces++newP gr (ls.take (j+1)) },some ⟨gg,0,none⟩,cap1⟩):=⟨by rw [HNT.1]⟩
   have nb1:(Value.slice lc pl cp).ownBlock ≠ some g:=fun e=>by
    obtain ⟨c1,e1⟩:=qau hrow e;obtain ⟨c2,e2⟩:=qau hS.1.nb.own (show (Value.slice (some ⟨g,0,none⟩) n cap).ownBlock=some g from rfl);rw [e1] at e2;simp at e2
   have lg:g<wo.heap.size:=hS.1.nb.row_lt ⟨g,0,none⟩ rfl;have hal:=(hS.1.below (zB.alloc zL (.cells #[.int .i64 (gr+j),.int .i64 lj] 143))).cell hk2 7 _ rfl;have vc1:=(hgrow.cell_far ⟨g,k*9+7,none⟩ (by simp;omega) (Ne.symm nb1)).trans hal.1;have vf1:=(hgrow.frozen_far ⟨g,k*9+7,none⟩ (by simp;omega) (Ne.symm nb1)).trans hal.2;clear hown1 hgrow hat hlt' hal c7 f7 hrow;go_wp2_with fail;go_roundw
   case rel =>
    refine ⟨j+1,some ⟨gg,0,none⟩,cap1,by go_num,by omega,⟨?_⟩⟩;have h9:=HG.1;rw [List.set_set,HN2.1] at h9;exact h9
   case measure=>simp [intOf];omega
  case neg =>
   have k1:¬ (j:Int)<(m:Int):=by omega
   have hall:ls.take j=ls:=List.take_of_length_le (by have:=HML.1;omega);have HPA:Sh (ps=r.nd.pieces++newP gr ls):=⟨by rw [HPS.1,hall]⟩;have hw9:IntKind.i64.wrap (ln+num)=ln+num:=IntWalk.i64_in _ ⟨by omega,by omega⟩;clear hall;go_upto_region 6 with fail
   have HLE:Sh (∀ x,Later wo.drew x->x.cell? ⟨g,k*9+6,none⟩=some (.int .i64 ln)/\x.cell? ⟨rb,1,none⟩=some (.int .i64 num)):=⟨fun x hx=>by
    have S:=hS.1.below (Below.trans zD hx)
    exact ⟨by rw [HLN.1];exact (S.cell hk2 6 _ rfl).1,((S.mb.at 1 rfl).1.2 1 _ rfl).1⟩⟩
   refine qas 9 (by kernel_rfl) ?_;refine wpK_v 0 rfl (fun x hx=>by obtain ⟨d0,d1⟩:=HLE.1 x hx;go_simp;try with_reducible rfl) ?_
   try simp only [Act.put,qA,qB,qC]
   refine wpK_v 1 rfl (fun x hx=>by obtain ⟨d0,d1⟩:=HLE.1 x hx;go_simp;try with_reducible rfl) ?_
   try simp only [Act.put,qA,qB,qC]
   refine wpK_v 2 rfl (fun x hx=>by obtain ⟨d0,d1⟩:=HLE.1 x hx;go_simp;try with_reducible rfl) ?_
   try simp only [Act.put,qA,qB,qC]
   refine wpK_v 3 rfl (fun x hx=>by obtain ⟨d0,d1⟩:=HLE.1 x hx;go_simp;try with_reducible rfl) ?_
   try simp only [Act.put,qA,qB,qC]
   refine wpK_v 4 rfl (fun x hx=>by obtain ⟨d0,d1⟩:=HLE.1 x hx;go_simp;try with_reducible rfl) ?_
   try simp only [Act.put,qA,qB,qC]
   refine wpK_v 5 rfl (fun x hx=>by obtain ⟨d0,d1⟩:=HLE.1 x hx;go_simp;try with_reducible rfl) ?_
   try simp only [Act.put,qA,qB,qC]
   refine wpK_v 6 rfl (fun x hx=>by obtain ⟨d0,d1⟩:=HLE.1 x hx;go_simp;try with_reducible rfl) ?_
   try simp only [Act.put,qA,qB,qC]
   refine wpK_v 7 rfl (fun x hx=>by obtain ⟨d0,d1⟩:=HLE.1 x hx;go_simp;try with_reducible rfl) ?_
   try simp only [Act.put,qA,qB,qC]
   refine wpK_v 8 rfl (fun x hx=>by obtain ⟨d0,d1⟩:=HLE.1 x hx;go_simp;try with_reducible rfl) ?_
   try simp only [Act.put,qA,qB,qC]
   refine qde (by kernel_rfl) ?_;intro y hy;have HSY:=zS (hS.1.below (Below.trans zD hy));obtain ⟨c6,f6⟩:=HSY.1.cell hk2 6 _ rfl;dsimp only at c6;refine qex (y:=y.setCell ⟨g,k*9+6,none⟩ (.int .i64 (ln+num))) (i:=9) (by kernel_rfl) rfl (by rfl) (by go_simp) (by kernel_rfl) ?_;have HZ:=zS (HSY.1.put hk2 6 (by omega) (.int .i64 (ln+num)) (⟨{ r.nd with pieces:=ps,len:=ln+num },lc,cp⟩:NR) rfl rfl rfl rfl).less.less;have HZ2:Sh ((⟨{ r.nd with pieces:=ps,len:=ln+num },lc,cp⟩:NR)=⟨{ r.nd with pieces:=r.nd.pieces++newP gr ls,len:=r.nd.len+num },lc,cp⟩):=⟨by rw [HPA.1,HLN.1]⟩;clear c6 f6 hy HLE HSY hS;simp only [Act.put];go_wp2_with fail;refine qad (fun w9=>SS w0 w9 L B (some ⟨g,0,none⟩) n cap (rs.set k (⟨{ r.nd with pieces:=r.nd.pieces++newP gr ls,len:=r.nd.len+num },lc,cp⟩:NR))) (by have h9:=HZ.1;rw [List.set_set,HZ2.1] at h9;exact h9) ?_;intro w9 h9;refine bodyPost_end (v:=.tuple #[]) (by simp [results,Tryz.results255,go_sem]) rfl ⟨rfl,lc,cp,h9⟩

theorem qjk {t:TypeId} {L:List Value} (h:w.ownsRow B t sz (.slice a n cap) n L) (hn:0<L.length->n ≠ 0):RRow w a L 0 w.heap.size:=by
 intro hp;obtain ⟨g,c,cur,e,_,hl,_⟩:=qfg h (hn hp);simp only [Value.slice.injEq] at e;obtain ⟨rfl,-,rfl⟩:=e;exact RRow.of_crow (qan h).crow hp
theorem own_take {L:List Value} (h:w.ownsRow B t sz (.slice (some ⟨g,0,none⟩) n cap) n L) (hm:m<=n):w.ownsRow B t sz (.slice (some ⟨g,0,none⟩) m cap) m (L.take (m*sz)):=by
 obtain ⟨hL,h2⟩:=h;rcases h2 with ⟨h',_⟩ | ⟨g',cap',cur,h',hb,hg,hnc,hcm,hcs,htake⟩
 ·simp at h'
 ·simp only [Value.slice.injEq,Option.some.injEq,Addr.mk.injEq,and_true,true_and] at h'
  obtain ⟨rfl,rfl⟩:=h';have hle:m*sz<=n*sz:=Nat.mul_le_mul_right _ hm;refine ⟨by rw [List.length_take,hL];omega,.inr ⟨g,cap,cur,rfl,hb,hg,by omega,hcm,hcs,?_⟩⟩;rw [<-htake,List.take_take,Nat.min_eq_left hle]
theorem qqa {L:List Value}:∀ (vs:List Value) (o:Nat) (w:World),w.ownsRow B t sz (.slice (some ⟨g,0,none⟩) m cap) m L->L.length<=o->(w.setCells g o vs).ownsRow B t sz (.slice (some ⟨g,0,none⟩) m cap) m L/\w.grownBy (w.setCells g o vs) (some g)
 | [],o,w,h,_=>⟨h,⟨rfl,rfl,rfl,zL,fun _ _ _=>rfl⟩⟩
 | v::vs,o,w,h,ho=>by
  have h1:=(h.stored o v).1;rw [List.set_eq_of_length_le ho] at h1;obtain ⟨h2,h3⟩:=qqa vs (o+1) _ h1 (by omega);exact ⟨h2,qed (qam w g o v) h3⟩
def putN (y:World) (g o:Nat) (r:NR):World:=(((((((((y.setCell ⟨g,o,none⟩ (.int .i64 r.nd.id)).setCell ⟨g,o+1,none⟩ (.int .i64 r.nd.parent)).setCell ⟨g,o+2,none⟩ (.string r.nd.name)).setCell ⟨g,o+3,none⟩ (.bool r.nd.dir)).setCell ⟨g,o+4,none⟩ (.int .i64 r.nd.schema)).setCell ⟨g,o+5,none⟩ (.int .i64 r.nd.quota)).setCell ⟨g,o+6,none⟩ (.int .i64 r.nd.len)).setCell ⟨g,o+7,none⟩ (.slice r.loc r.nd.pieces.length r.cap)).setCell ⟨g,o+8,none⟩ (.int .i64 r.nd.writer))
theorem qli (y:World) (g o:Nat) (r:NR):y.grownBy (putN y g o r) (some g):=by
 have st:=fun (w:World) i v=>qam w g i v;exact qed (qed (qed (qed (qed (qed (qed (qed (st _ o _) (st _ (o+1) _)) (st _ (o+2) _)) (st _ (o+3) _)) (st _ (o+4) _)) (st _ (o+5) _)) (st _ (o+6) _)) (st _ (o+7) _)) (st _ (o+8) _)
theorem putN_own {y:World} (h:y.ownsRow B 90 9 (.slice (some ⟨g,0,none⟩) n cap) n (ncs xs)) (i:Nat) (hi:i<xs.length) (r:NR):(putN y g (i*9) r).ownsRow B 90 9 (.slice (some ⟨g,0,none⟩) n cap) n (ncs (xs.set i r)):=by
 have step:∀ (w:World) (q s:NR) (f:Nat) (hf:f<9) (v:Value),w.ownsRow B 90 9 (.slice (some ⟨g,0,none⟩) n cap) n (ncs (xs.set i q))->qaj s=(qaj q).set f v->(w.setCell ⟨g,i*9+f,none⟩ v).ownsRow B 90 9 (.slice (some ⟨g,0,none⟩) n cap) n (ncs (xs.set i s)):=fun w q s f hf v ho hc=>by
  have h1:=(ho.stored (i*9+f) v).1;have hl:i<(xs.set i q).length:=by rw [List.length_set];exact hi
  rw [qih (xs.set i q) i hl f hf v s (by rw [List.getElem_set_self];exact hc),List.set_set] at h1;exact h1
 obtain ⟨q,hq⟩:∃ q,q=xs[i]:=⟨_,rfl⟩;have h0:y.ownsRow B 90 9 (.slice (some ⟨g,0,none⟩) n cap) n (ncs (xs.set i q)):=by rw [hq,List.set_getElem_self];exact h
 obtain ⟨⟨a0,a1,a2,a3,a4,a5,a6,a7,a8⟩,al,ac⟩:=q;obtain ⟨⟨b0,b1,b2,b3,b4,b5,b6,b7,b8⟩,bl,bc⟩:=r;have s0:=step _ _ ⟨⟨b0,a1,a2,a3,a4,a5,a6,a7,a8⟩,al,ac⟩ 0 (by omega) (.int .i64 b0) h0 rfl;have s1:=step _ _ ⟨⟨b0,b1,a2,a3,a4,a5,a6,a7,a8⟩,al,ac⟩ 1 (by omega) (.int .i64 b1) s0 rfl;have s2:=step _ _ ⟨⟨b0,b1,b2,a3,a4,a5,a6,a7,a8⟩,al,ac⟩ 2 (by omega) (.string b2) s1 rfl;have s3:=step _ _ ⟨⟨b0,b1,b2,b3,a4,a5,a6,a7,a8⟩,al,ac⟩ 3 (by omega) (.bool b3) s2 rfl;have s4:=step _ _ ⟨⟨b0,b1,b2,b3,b4,a5,a6,a7,a8⟩,al,ac⟩ 4 (by omega) (.int .i64 b4) s3 rfl;have s5:=step _ _ ⟨⟨b0,b1,b2,b3,b4,b5,a6,a7,a8⟩,al,ac⟩ 5 (by omega) (.int .i64 b5) s4 rfl;have s6:=step _ _ ⟨⟨b0,b1,b2,b3,b4,b5,b6,a7,a8⟩,al,ac⟩ 6 (by omega) (.int .i64 b6) s5 rfl;have s7:=step _ _ ⟨⟨b0,b1,b2,b3,b4,b5,b6,b7,a8⟩,bl,bc⟩ 7 (by omega) (.slice bl b7.length bc) s6 rfl;exact step _ _ ⟨⟨b0,b1,b2,b3,b4,b5,b6,b7,b8⟩,bl,bc⟩ 8 (by omega) (.int .i64 b8) s7 rfl
structure DF (w0 W:World) (L:List (Nat × List Value)) (B g n cap:Nat) (p:NM->Bool) (rs xs:List NR) (i j:Nat):Prop where
 mb:MB w0 W L
 own:W.ownsRow B 90 9 (.slice (some ⟨g,0,none⟩) n cap) n (ncs xs)
 len:xs.length=n
 rows:∀ r ∈ rs,W.ownsRow B 143 2 (.slice r.loc r.nd.pieces.length r.cap) r.nd.pieces.length (pcs r.nd.pieces)
 pre:xs.take i=(rs.take j).filter (fun r=>!p r.nd)
 low:i<j
 rest:∀ t,j<=t->xs[t]?=rs[t]?
theorem DF.below {p:NM->Bool} (h:DF w0 W L B g n cap p rs xs i j) (hb:Below W.heap.size W W'):DF w0 W' L B g n cap p rs xs i j:=by
 have hg:W.grownBy W' none:=⟨hb.os,hb.tape,hb.output,hb.size,fun k hk _=>hb.block k hk⟩;exact ⟨h.mb.below hb,h.own.kept hg (Classical.em _),h.len,fun r hr=>(h.rows r hr).kept hg (Classical.em _),h.pre,h.low,h.rest⟩
theorem qnf {B g n c m cc:Nat} {L M:List Value} {loc:Option Addr} (hown:W.ownsRow B 90 9 (.slice (some ⟨g,0,none⟩) n c) n L) (h:W.ownsRow B 143 2 (.slice loc m cc) m M) (hg:W.grownBy W' (some g)):W'.ownsRow B 143 2 (.slice loc m cc) m M:=by
 refine h.kept hg ?_
 cases e:(Value.slice loc m cc).ownBlock with
 | none=>exact .inl rfl
 | some q =>
  refine .inr fun e2=>?_;obtain ⟨c1,h1⟩:=qau h e;obtain ⟨c2,h2⟩:=qau hown (show (Value.slice (some ⟨g,0,none⟩) n c).ownBlock=some g from rfl);cases e2;rw [h1] at h2;simp at h2
theorem qju {p:NM->Bool} (hj:j<rs.length):(rs.take (j+1)).filter (fun r=>!p r.nd)=(rs.take j).filter (fun r=>!p r.nd)++if p rs[j].nd=true then [] else [rs[j]]:=by
 rw [List.take_succ_eq_append_getElem hj,List.filter_append]
 congr 1
 cases h:p rs[j].nd <;> simp [h]
theorem DF.skip {p:NM->Bool} (h:DF w0 W L B g n cap p rs xs i j) (hj:j<rs.length) (hp:p rs[j].nd=true):DF w0 W L B g n cap p rs xs i (j+1):=
 ⟨h.mb,h.own,h.len,h.rows,by rw [h.pre,qju hj,if_pos hp,List.append_nil],by have:=h.low;omega,fun t ht=>h.rest t (by omega)⟩
theorem DF.move {p:NM->Bool} (h:DF w0 W L B g n cap p rs xs i j) (hj:j<rs.length) (hn:rs.length=n) (hp:p rs[j].nd=false) (hg:∀ q ∈ L,g ≠ q.1) (hlo:w0.heap.size<=B):DF w0 (putN W g (i*9) rs[j]) L B g n cap p rs (xs.set i rs[j]) (i+1) (j+1):=by
 have hil:i<xs.length:=by have:=h.low;have:=h.len;omega
 have hgB:B<=g:=(h.own.lt g rfl).1;refine ⟨h.mb.far (qli W g (i*9) rs[j]) (fun q hq e=>hg q hq (by cases e;rfl)) (fun q e=>by cases e;omega),putN_own h.own i hil rs[j],by rw [List.length_set];exact h.len,fun r hr=>qnf h.own (h.rows r hr) (qli W g (i*9) rs[j]),?_,by have:=h.low;omega,fun t ht=>?_⟩
 ·rw [qju hj,if_neg (by simp [hp]),<-h.pre]
  rw [List.take_succ_eq_append_getElem (by rw [List.length_set];exact hil),List.getElem_set_self,List.take_set_of_le zL]
 ·rw [List.getElem?_set_ne (by have:=h.low;omega)]
  exact h.rest t (by omega)
theorem DF.start {p:NM->Bool} (h:SS w0 W L B (some ⟨g,0,none⟩) n cap rs) (hi:(nds rs).findIdx? p=some i):DF w0 W L B g n cap p rs rs i (i+1):=by
 obtain ⟨hi',h1,h2⟩:=List.findIdx?_eq_some_iff_getElem.1 hi;have hir:i<rs.length:=by rw [qaf] at hi';exact hi'
 have hpi:p rs[i].nd=true:=by simpa [nds] using h1
 have hlow:∀ r ∈ rs.take i,(!p r.nd)=true:=fun r hr=>by
  obtain ⟨j,hj,e⟩:=List.getElem_of_mem hr;rw [List.length_take] at hj;rw [List.getElem_take] at e;have:=h2 j (by omega);rw [<-e]
  simpa [nds] using this
 refine ⟨h.mb,by have:=h.nb.own;rw [h.len] at this;exact this,h.len,h.nb.rows,?_,by omega,fun t _=>rfl⟩;rw [qju hir,if_pos hpi,List.append_nil,List.filter_eq_self.2 hlow]
theorem DF.fin {p:NM->Bool} (h:DF w0 W L B g n cap p rs xs i j) (hj:n<=j) (hs:rs.length=n) (hin:i<=n) (hap:rs.Pairwise fun r s=>r.loc ≠ none->s.loc ≠ none->r.loc ≠ s.loc) (hq:∀ q ∈ L,g ≠ q.1/\∀ r ∈ rs,∀ a,r.loc=some a->a.block ≠ q.1) (hlo:w0.heap.size<=B) (vs:List Value) :
  SS w0 (W.setCells g (i*9) vs) L B (some ⟨g,0,none⟩) i cap (rs.filter (fun r=>!p r.nd)):=by
 have hgB:B<=g:=(h.own.lt g rfl).1;have hpre:=h.pre;rw [List.take_of_length_le (by omega:rs.length<=j)] at hpre;have hlen:(rs.filter (fun r=>!p r.nd)).length=i:=by rw [<-hpre,List.length_take,h.len];omega
 have ho:=own_take h.own hin
 have hc:(ncs xs).take (i*9)=ncs (rs.filter (fun r=>!p r.nd)):=by
  rw [<-hpre];have e:xs=xs.take i++xs.drop i:=(List.take_append_drop _ _).symm;have e2:ncs xs=ncs (xs.take i)++ncs (xs.drop i):=(congrArg ncs e).trans List.flatMap_append;rw [e2];have hl:(ncs (xs.take i)).length=i*9:=by rw [qes,List.length_take,h.len,Nat.min_eq_left hin]
  rw [<-hl,List.take_left]
 rw [hc] at ho;obtain ⟨o1,o2⟩:=qqa vs (i*9) W ho (by rw [qes,hlen];exact zL);refine ⟨h.mb.far o2 (fun q hq' e=>(hq q hq').1 (by cases e;rfl)) (fun q e=>by cases e;omega),⟨by rw [hlen];exact o1,fun r hr=>qnf h.own (h.rows r (List.mem_filter.1 hr).1) o2,List.Pairwise.filter _ hap⟩,hlen,fun q hq'=>⟨fun a e=>by cases e;exact (hq q hq').1,fun r hr a e=>(hq q hq').2 r (List.mem_filter.1 hr).1 a e⟩,hlo⟩
theorem zero_one (m:Nat):∀ v ∈ (Builtin.zeroCells #[.int .i64 0,.int .i64 0,.string ⟨#[]⟩,.bool false,.int .i64 0,.int .i64 0,.int .i64 0,.slice none 0 0,.int .i64 0] m).toList,v.oneCell'=true:=by
 intro v hv;unfold Builtin.zeroCells at hv;simp only [Array.toList_map,List.mem_map] at hv;obtain ⟨i,-,rfl⟩:=hv;have:i % 9<9:=Nat.mod_lt _ (by decide);generalize i % 9=q at this
 show (#[Value.int .i64 0,.int .i64 0,.string ⟨#[]⟩,.bool false,.int .i64 0,.int .i64 0,.int .i64 0,.slice none 0 0,.int .i64 0][q]!).oneCell'=true
 match q,this with
 | 0,_=>rfl
 | 1,_=>rfl
 | 2,_=>rfl
 | 3,_=>rfl
 | 4,_=>rfl
 | 5,_=>rfl
 | 6,_=>rfl
 | 7,_=>rfl
 | 8,_=>rfl
abbrev zeroN:Array Value:=#[.int .i64 0,.int .i64 0,.string ⟨#[]⟩,.bool false,.int .i64 0,.int .i64 0,.int .i64 0,.slice none 0 0,.int .i64 0]
theorem qng (m:Nat):(Builtin.zeroCells zeroN m).toList.length=m*9:=by
 unfold Builtin.zeroCells;simp
theorem clear_run (g o m c:Nat) (W:World) (hc:∀ j,j<(m+1)*9->(W.cell? ⟨g,o+j,none⟩).isSome=true/\W.frozen? ⟨g,o+j,none⟩=false):Sem.run Tryz.prog (Builtin.clear_ #[35] 0 #[.slice (some ⟨g,o,none⟩) (m+1) c]) W = .ok (.tuple #[]) (W.setCells g o (Builtin.zeroCells zeroN (m+1)).toList):=by
 have hz:∀ w,Sem.run Tryz.prog (zeroValue 90) w = .ok (.agg zeroN) w:=fun w=>by kernel_rfl
 have hs:=run_storeCells_cells (P:=Tryz.prog) g o (Builtin.zeroCells zeroN (m+1)).toList 0 W (fun j hj=>by rw [Nat.add_zero];exact (hc j (by rw [<-qng];exact hj)).1) (fun j hj=>by rw [Nat.add_zero];exact (hc j (by rw [<-qng];exact hj)).2) (zero_one (m+1));unfold Builtin.clear_;simp [go_sem,hz,Value.cells,hs]
theorem qlj (h:SS w0 W L B (some ⟨g,0,none⟩) n cap rs) (p:NM->Bool) (cv:Value) (hn:n<=1000)
  (HC:∀ W',MB w0 W' L->∀ r:NR,Calls Tryz.prog 252 #[nv r,cv] W' fun e w'=>e = .returned (.bool (p r.nd))/\Below W'.heap.size W' w') :
  Calls Tryz.prog 251 #[.slice (some ⟨g,0,none⟩) n cap,.func (.func 252) #[] #[cv]] W fun e w'=>∃ m,e = .returned (.slice (some ⟨g,0,none⟩) m cap)/\SS w0 w' L B (some ⟨g,0,none⟩) m cap (rs.filter (fun r=>!p r.nd)):=by
 have hsee:TR W (some ⟨g,0,none⟩) rs 0 W.heap.size:=⟨by
  have ho:=h.nb.own;rw [h.len] at ho
  exact qjk ho (fun hp e=>by have e2:(ncs rs).length=rs.length*9:=qes rs;rw [h.len,e] at e2;change 0<(ncs rs).length at hp;omega),fun r hr=>qjk (h.nb.rows r hr) (fun hp e=>by have e2:(pcs r.nd.pieces).length=r.nd.pieces.length*2:=qiv _;rw [e] at e2;change 0<(pcs r.nd.pieces).length at hp;omega)⟩
 have HIX:=zS (indexGone p cv (cap:=cap) hsee h.len.symm (by omega) (fun W' hb r _=>HC W' (h.mb.below hb) r));have HS:=zS h;have HCC:=zS HC;clear h HC hsee;go_enter Tryz.func251,Tryz.ntmps251
 cases ho:(nds rs).findIdx? p with
 | none =>
  have hix:idxI p (nds rs) = -1:=by unfold idxI;rw [ho]
  rw [hix] at HIX;have HO:=zS ho;clear hix ho;go_wp2_with (go_at_call 66;refine HIX.1.mono ?_;rintro e w1 ⟨rfl,hb1⟩;have HB1:=zS hb1;clear hb1);go_ret;refine ⟨n,rfl,?_⟩
  have hall:rs.filter (fun r=>!p r.nd)=rs:=List.filter_eq_self.2 fun r hr=>by
   have:=List.findIdx?_eq_none_iff.1 HO.1 r.nd (List.mem_map.2 ⟨r,hr,rfl⟩);simp [this]
  rw [hall];exact HS.1.below HB1.1
 | some i0 =>
  have hix:idxI p (nds rs)=(i0:Int):=by unfold idxI;rw [ho]
  rw [hix] at HIX;have HO:=zS ho;clear hix ho;have i1:((i0:Int) == -1)=false:=by simp
  have hi0:i0<n:=by
   obtain ⟨hi',-⟩:=List.findIdx?_eq_some_iff_getElem.1 HO.1;rw [qaf,HS.1.len] at hi';exact hi'
  have hw1:IntKind.i64.wrap ((i0:Int)+1)=((i0+1:Nat):Int):=by rw [IntWalk.i64_in _ ⟨by omega,by omega⟩];omega
  go_wp2_with (go_at_call 66;refine HIX.1.mono ?_;rintro e w1 ⟨rfl,hb1⟩;have HD1:=zS (DF.start (HS.1.below hb1) HO.1);clear hb1);go_loopw [5,6] (fun iv jv wr=>∃ (i j:Nat) (xs:List NR),iv = .int .i64 i/\jv = .int .i64 j/\j<=n/\i<j/\Sh (DF w0 wr L B g n cap p rs xs i j)) (fun _ jv _=>n - (intOf jv).toNat)
  case atStart=>exact ⟨i0,i0+1,rs,rfl,rfl,by omega,by omega,HD1⟩
  case round =>
   clear HD1;obtain ⟨i,j,xs,rfl,rfl,hj,hij,HD⟩:=hrel;obtain ⟨wo,rfl⟩:∃ wo,wo=wr:=⟨_,rfl⟩;have hrn:rs.length=n:=HS.1.len;have HRN:=zS hrn
   by_cases hlt:j<n
   case pos =>
    have hjr:j<rs.length:=by omega
    have hjx:j<xs.length:=by rw [HD.1.len];exact hlt
    have hxj:xs[j]=rs[j]:=by
     have:=HD.1.rest j zL;rw [List.getElem?_eq_getElem hjx,List.getElem?_eq_getElem hjr] at this;exact Option.some.inj this
    have j0:(0:Int)<=(j:Int):=by omega
    have j1:(j:Int)<(n:Int):=by omega
    have k0:(0:Int)<=(i:Int):=by omega
    have k1:(i:Int)<(n:Int):=by omega
    have hcell:∀ f v,(qaj xs[j])[f]?=some v->wo.cell? ⟨g,j*9+f,none⟩=some v:=fun f v hv=>by
     have hf:f<9:=by have:=(List.getElem?_eq_some_iff.1 hv).1;rw [qai] at this;exact this
     exact ((qan HD.1.own).2 _ _ ((flat_get qai xs j hjx f hf).trans hv)).1
    rw [hxj] at hcell;obtain ⟨r,hrj⟩:∃ r,r=rs[j]:=⟨_,rfl⟩;rw [<-hrj] at hcell;have HRJ:=zS hrj;have c0:=hcell 0 _ rfl;have c1:=hcell 1 _ rfl;have c2:=hcell 2 _ rfl;have c3:=hcell 3 _ rfl;have c4:=hcell 4 _ rfl;have c5:=hcell 5 _ rfl;have c6:=hcell 6 _ rfl;have c7:=hcell 7 _ rfl;have c8:=hcell 8 _ rfl;rw [Nat.add_zero] at c0;have lg:g<wo.heap.size:=(HD.1.own.lt g rfl).2;clear hcell hxj hrj hrn;go_upto_region 8 with fail;obtain ⟨vb,hvb⟩:∃ vb,vb=wo.heap.size:=⟨_,rfl⟩;refine qaa (fun V=>DF w0 V L B g n cap p rs xs i j/\WCells V vb (qaj r)/\g<vb) ⟨HD.1.below (zB.alloc zL _),by rw [hvb];exact qac wo #[.int .i64 r.nd.id,.int .i64 r.nd.parent,.string r.nd.name,.bool r.nd.dir,.int .i64 r.nd.schema,.int .i64 r.nd.quota,.int .i64 r.nd.len,.slice r.loc r.nd.pieces.length r.cap,.int .i64 r.nd.writer] 90,by rw [hvb];exact lg⟩ ?_;rintro V ⟨hV,hvx,hgv⟩;have HV:=zS hV;have HX:=zS hvx;rw [<-hvb];clear hV hvx hvb c0 c1 c2 c3 c4 c5 c6 c7 c8 lg HD;have HCK:=zS (HCC.1 V HV.1.mb r);obtain ⟨y0,y1,y2,y3,y4,y5,y6,y7,y8⟩:=bwb9 HX.1;obtain ⟨q,hq⟩:∃ q,q=p r.nd:=⟨_,rfl⟩;rw [<-hq] at HCK;have HQ:=zS hq;clear hq
    cases q with
    | true =>
     go_wp2_with (go_at_call 252;refine HCK.1.mono ?_;rintro e w5 ⟨rfl,hb5⟩;have HV5:=zS (HV.1.below hb5);clear hb5 y0 y1 y2 y3 y4 y5 y6 y7 y8);go_roundw
     case rel=>exact ⟨i,j+1,xs,rfl,by go_num,by omega,by omega,⟨HV5.1.skip hjr (by rw [<-HRJ.1,<-HQ.1])⟩⟩
     case measure=>simp [intOf];omega
    | false =>
     go_upto_region 9 with (go_at_call 252;refine HCK.1.mono ?_;rintro e w5 ⟨rfl,hb5⟩;have HV5:=zS (HV.1.below hb5);have HX5:=zS (HX.1.grow hb5);clear hb5 y0 y1 y2 y3 y4 y5 y6 y7 y8);have hii:i<xs.length:=by rw [HV5.1.len];omega
     have hcel:∀ f,f<9->∃ u,w5.cell? ⟨g,i*9+f,none⟩=some u/\w5.frozen? ⟨g,i*9+f,none⟩=false:=fun f hf=>by
      have hv:(qaj xs[i])[f]?=some ((qaj xs[i])[f]'(by rw [qai];exact hf)):=List.getElem?_eq_getElem _;have:=(qan HV5.1.own).2 _ _ ((flat_get qai xs i hii f hf).trans hv);exact ⟨_,this.1,this.2⟩
     obtain ⟨u0,z0,zf0⟩:=hcel 0 (by omega);obtain ⟨u1,z1,zf1⟩:=hcel 1 (by omega);obtain ⟨u2,z2,zf2⟩:=hcel 2 (by omega);obtain ⟨u3,z3,zf3⟩:=hcel 3 (by omega);obtain ⟨u4,z4,zf4⟩:=hcel 4 (by omega);obtain ⟨u5,z5,zf5⟩:=hcel 5 (by omega);obtain ⟨u6,z6,zf6⟩:=hcel 6 (by omega);obtain ⟨u7,z7,zf7⟩:=hcel 7 (by omega);obtain ⟨u8,z8,zf8⟩:=hcel 8 (by omega);rw [Nat.add_zero] at z0 zf0;obtain ⟨y0,y1,y2,y3,y4,y5,y6,y7,y8⟩:=bwb9 HX5.1;have ne1:¬ (vb=g):=by omega
     have ne2:¬ (g=vb):=by omega
     clear hcel hii;go_upto_region 10 with fail
     refine qaa (fun V6=>DF w0 V6 L B g n cap p rs (xs.set i r) (i+1) (j+1)) (by
      have h9:=HV5.1.move hjr HRN.1 (by rw [<-HRJ.1,<-HQ.1]) (fun q hq=>(HS.1.ap q hq).1 ⟨g,0,none⟩ rfl) HS.1.lo;rw [<-HRJ.1] at h9
      exact h9) ?_
     intro V6 hV6;have HV6:=zS hV6;clear hV6;go_wp2_with fail;go_roundw
     case rel=>exact ⟨i+1,j+1,xs.set i r,by go_num,by go_num,by omega,by omega,HV6⟩
     case measure=>simp [intOf];omega
   case neg =>
    have j1:¬ (j:Int)<(n:Int):=by omega
    have hin:i<=n:=by omega
    have k0:(0:Int)<=(i:Int):=by omega
    have k1:(i:Int)<=(n:Int):=by omega
    have hcap:n<=cap:=by
     rcases HD.1.own.2 with ⟨h',_⟩ | ⟨g',cap',cur,h',_,_,hnc,_⟩
     ·simp at h'
     ·simp only [Value.slice.injEq] at h'
      omega
    have hnc:(n:Int)<=(cap:Int):=by omega
    have hkc:(i:Int)<=(cap:Int):=by omega
    obtain ⟨m',hm'⟩:∃ m',n - i=m'+1:=⟨n - i - 1,by omega⟩
    have HCL:=zS (clear_run g (i*9) m' (cap - i) wo (fun q hq=>by
     have hlt9:i*9+q<(ncs xs).length:=by rw [qes,HD.1.len];omega
     have:=(qan HD.1.own).2 (i*9+q) _ (List.getElem?_eq_getElem hlt9)
     exact ⟨by rw [this.1];rfl,this.2⟩))
    rw [<-hm'] at HCL;have hcl:=HCL.1;have HF:=zS (HD.1.fin (by omega) HRN.1 hin HS.1.nb.apart (fun q hq=>⟨(HS.1.ap q hq).1 ⟨g,0,none⟩ rfl,(HS.1.ap q hq).2⟩) HS.1.lo (Builtin.zeroCells zeroN (n - i)).toList);clear hm' hrn HCL;go_wp2_with fail;go_ret;exact ⟨i,rfl,HF.1⟩
end
end Go.Proofs.YtackbhpgdohimaaGreatDoor
