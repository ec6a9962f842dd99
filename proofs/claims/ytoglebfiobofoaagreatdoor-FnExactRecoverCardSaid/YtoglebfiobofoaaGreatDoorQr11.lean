/- Texts of ours, laid one behind the other: ApJ, ApK, RecM, TlA, DrEdE, DrTr, StR, CtB, IxA, ChA. -/
import Derived.Test.YtoglebfiobofoaaGreatDoorQrApI
import Derived.Test.YtoglebfiobofoaaGreatDoorQr3
import Derived.Test.YtoglebfiobofoaaGreatDoorQr7
import Derived.Test.YtoglebfiobofoaaGreatDoorQr4
import Derived.Test.YtoglebfiobofoaaGreatDoorQrLogS
import Derived.Test.YtoglebfiobofoaaGreatDoorQr2
import Derived.Test.YtoglebfiobofoaaGreatDoorQr5
import Derived.Test.YtoglebfiobofoaaGreatDoorQr8
import Derived.Test.YtoglebfiobofoaaGreatDoorQr9
import Derived.Deep.RegionHeld3
import Derived.Deep.CutRange
import Derived.Handy
/- ApJ: . -/
namespace Go.Proofs.YtoglebfiobofoaaGreatDoor
set_option maxRecDepth 100000
set_option maxHeartbeats 16000000
open Go.RowKit BigFrame
attribute [local go_sem ↓] Go.wp_at_zero Go.wp_at_succ
variable {hi lo:Nat} {T:TM} {v:Value} {w:World}
theorem apply_add {e:EM} {g:Int} (h7:e.kind=7) (h:(qam T e g).2=0):∃ k,k<T.nodes.length/\atI T.nodes (findX T e.path)=(k:Int)/\(qam T e g).1.nodes.length=T.nodes.length/\(ndAt (qam T e g).1 k).pieces.length<=40/\(ndAt T k).pieces.length<=40/\1<=g/\g<=99000:=by
 unfold qam at h ⊢
 split at h
 ·cases h
 ·rename_i hm
  rw [if_neg hm]
  have hm':mayX T e g=true:=by simpa using hm
  unfold mayX at hm'
  simp only [Bool.and_eq_true] at hm'
  have hg:=inI_iff.1 hm'.2
  rw [if_neg (by omega),if_neg (by omega),if_neg (by omega)] at h ⊢
  split at h
  ·cases h
  ·rename_i hid
   rw [if_neg hid]
   rw [if_neg (by omega),if_neg (by omega),if_neg (by omega)] at h ⊢
   obtain ⟨k,hk,hat,-⟩:=qki hid
   have e1:plc T (findX T e.path)=k:=by unfold plc;rw [hat];rfl
   rw [e1] at h ⊢
   have hp:=qbl hm'.1.1 k hk
   have hp40:(ndAt T k).pieces.length<=40:=by rw [qdx hk];exact hp.2.1
   refine ⟨k,hk,hat,?_⟩
   unfold qbr at h ⊢
   split at h
   ·cases h
   ·rename_i c1
    rw [if_neg c1]
    split at h
    ·cases h
    ·rename_i c2
     rw [if_neg c2]
     rw [if_neg (by omega),if_neg (by omega)] at h ⊢
     split at h
     ·cases h
     ·rename_i c3
      rw [if_neg c3]
      split at h
      ·cases h
      ·rename_i c4
       rw [if_neg c4]
       refine ⟨by simp [setN],?_,hp40,hg.1,hg.2⟩
       unfold ndAt setN
       dsimp only
       rw [List.getD,List.getElem?_set_self hk]
       simp only [Option.getD_some,List.length_append,qeh]
       unfold ndAt at c4
       omega
theorem TAns.see_form (h:TAns w v T lo hi):∃ (a:Option Addr) (cap:Nat) (rs:List NR),v = .agg #[.slice a rs.length cap,.int .i64 T.next]/\nds rs=T.nodes/\rs.length<=cap/\TR w a rs lo hi:=by
 obtain ⟨a,cap,rs,e,hr,hc,h1⟩:=h
 refine ⟨a,cap,rs,e,hr,hc,?_⟩
 rcases h1 with rfl | ⟨g,rfl,hm⟩
 ·exact GR.nil _ _ _ _ _
 ·exact hm.gr
theorem MB.two (w:World) (c1 c2:Array Value) (t1 t2:TypeId):MB w ((w.alloc (.cells c1 t1)).alloc (.cells c2 t2)) [(w.heap.size+1,c2.toList),(w.heap.size,c1.toList)]:=by
 have h:=((MB.nil w).new c1 t1).new c2 t2
 have e1:(w.alloc (.cells c1 t1)).heap.size=w.heap.size+1:=by simp
 rw [e1] at h
 exact h
theorem specGroupsAfter (e:EM) (gr:Int) (h:TSee w v T lo hi) (hf:NFit T) (he:EFit e):Calls Tryz.prog 46 #[v,ev e,.int .i64 gr] w fun r w'=>r = .returned (.int .i64 (qba T e gr))/\Below w.heap.size w w':=by
 have HAP:=Sh.mk (fun (W:World) (hb:Below w.heap.size w W)=>qmt e gr (h.below hb) hf he)
 have HFP:=Sh.mk (fun (W:World) (hb:Below w.heap.size w W)=>qbz e.path (h.below hb) hf he.1)
 have hl:T.nodes.length<=1048576:=by unfold NFit at hf;omega
 have HAT:=Sh.mk (fun (i:Int) (W:World) (hb:Below w.heap.size w W)=>qfh i (h.below hb) hl)
 have hadd:=@apply_add T e gr
 have hboot:(qam T e gr).2=0->e.kind=10->1<=gr/\gr<=99000:=fun h0 h1=>by
  unfold qam at h0
  split at h0
  ·cases h0
  ·rename_i hm
   have hm':mayX T e gr=true:=by simpa using hm
   unfold mayX at hm'
   simp only [Bool.and_eq_true] at hm'
   exact inI_iff.1 hm'.2
 have HX:Sh (qba T e gr=if (qam T e gr).2 ≠ 0 then gr else if e.kind=10 then gr+20 else if e.kind ≠ 7 then gr else gr+(ndAt (qam T e gr).1 (plc T (findX T e.path))).pieces.length - (ndAt T (plc T (findX T e.path))).pieces.length):=⟨rfl⟩
 generalize qba T e gr=R at HX ⊢
 obtain ⟨RT,rc,hRR⟩:∃ RT rc,qam T e gr=(RT,rc):=⟨_,_,rfl⟩
 rw [hRR] at HAP HX hadd hboot
 clear hRR
 dsimp only at HX hadd hboot
 obtain ⟨a,cap,rs,rfl,hr,hm⟩:=h
 obtain ⟨nodes,nx⟩:=T
 dsimp only at *
 subst hr
 obtain ⟨n,hn⟩:∃ n,n=rs.length:=⟨_,rfl⟩
 rw [<-hn] at HAP HFP HAT ⊢
 have HN:=Sh.mk hn
 have HMR:Sh (TR w a rs lo hi):=⟨hm⟩
 have HADD:=Sh.mk hadd
 have HBOOT:=Sh.mk hboot
 clear hn hm hf hl he hadd hboot
 obtain ⟨kind,path,dest,num,who⟩:=e
 dsimp only at *
 have HM0:=Sh.mk (MB.two w #[.slice a n cap,.int .i64 nx] #[.int .i64 kind,.string path,.string dest,.int .i64 num,.int .i64 who] 42 33)
 go_enter Tryz.func46,Tryz.ntmps46
 go_upto_region 1 with fail
 refine qaa (fun W=>MB w W [(w.heap.size+1,qah ⟨kind,path,dest,num,who⟩),(w.heap.size,[.slice a n cap,.int .i64 nx])]) HM0.1 ?_
 intro W0 hM
 have HM:=Sh.mk hM
 clear hM HM0
 have x0:=((HM.1.at 1 rfl).1.2 0 _ rfl).1
 have x1:=((HM.1.at 1 rfl).1.2 1 _ rfl).1
 have y0:=((HM.1.at 0 rfl).1.2 0 _ rfl).1
 have y1:=((HM.1.at 0 rfl).1.2 1 _ rfl).1
 have y2:=((HM.1.at 0 rfl).1.2 2 _ rfl).1
 have y3:=((HM.1.at 0 rfl).1.2 3 _ rfl).1
 have y4:=((HM.1.at 0 rfl).1.2 4 _ rfl).1
 dsimp only at y0 y1 y2 y3 y4
 go_upto_region 2 with (go_at_call 45;refine (HAP.1 _ HM.1.bel).mono ?_;rintro e w2 ⟨vv,rfl,hans,hb2⟩;dsimp only at hans;obtain ⟨a5,c5,rs5,rfl,hr5,-,hq5⟩:=hans.see_form;have HR5:=Sh.mk (And.intro hr5 hq5);replace HM:=Sh.mk (HM.1.below hb2);clear hans hr5 hq5 hb2 x0 x1 y0 y1 y2 y3 y4)
 obtain ⟨m5,hm5⟩:∃ m,m=rs5.length:=⟨_,rfl⟩
 obtain ⟨t5,ht5⟩:∃ m,m=RT.next:=⟨_,rfl⟩
 rw [<-hm5,<-ht5]
 have HM5:=Sh.mk hm5
 clear hm5 ht5
 refine qaa (fun W=>MB w W [(w2.heap.size,[.slice a5 m5 c5,.int .i64 t5]),(w.heap.size+1,qah ⟨kind,path,dest,num,who⟩),(w.heap.size,[.slice a n cap,.int .i64 nx])]/\Below w2.heap.size w2 W) ⟨HM.1.new _ _,(Below.refl _ _).alloc (Nat.le_refl _) _⟩ ?_
 rintro W1 ⟨hM1,hB1⟩
 replace HM:=Sh.mk hM1
 have HB1:=Sh.mk hB1
 clear hM1 hB1
 have y0:=((HM.1.at 1 rfl).1.2 0 _ rfl).1
 dsimp only at y0
 by_cases h0:rc=0
 case neg =>
  have b0:(rc != 0)=true:=by simp [h0]
  have HXX:Sh (R=gr):=⟨by rw [HX.1,if_pos h0]⟩
  clear h0
  go_wp2_with fail
  go_ret
  exact ⟨by rw [HXX.1];rfl,HM.1.bel⟩
 have b0:(rc != 0)=false:=by simp [h0]
 by_cases h10:kind=10
 ·have b10:(kind==10)=true:=by simp [h10]
  have hg:=HBOOT.1 h0 h10
  have HXX:Sh (R=gr+20):=⟨by rw [HX.1,if_neg (by simp [h0]),if_pos h10]⟩
  obtain ⟨g1,g2⟩:=hg
  clear h10 h0
  go_wp2_with fail
  go_ret
  exact ⟨by rw [HXX.1];rfl,HM.1.bel⟩
 have b10:(kind==10)=false:=by simp [h10]
 by_cases h7:kind=7
 case neg =>
  have b7:(kind != 7)=true:=by simp [h7]
  have HXX:Sh (R=gr):=⟨by rw [HX.1,if_neg (by simp [h0]),if_neg h10,if_pos h7]⟩
  clear h0 h7 h10
  go_wp2_with fail
  go_ret
  exact ⟨by rw [HXX.1];rfl,HM.1.bel⟩
 have b7:(kind != 7)=false:=by simp [h7]
 obtain ⟨k,hk,hat,hlen,hp1,hp2,g1,g2⟩:=HADD.1 h7 h0
 have hkr:k<rs.length:=by rw [qaf] at hk;exact hk
 have hk5:k<rs5.length:=by
  have:=HR5.1.1
  rw [<-qaf rs5,this,hlen]
  exact hk
 have e1:plc ⟨nds rs,nx⟩ (findX ⟨nds rs,nx⟩ path)=k:=by unfold plc;dsimp only;rw [hat];rfl
 have n1:ndAt ⟨nds rs,nx⟩ k=rs[k].nd:=by simp [ndAt,nds,List.getD,hkr]
 have n2:ndAt RT k=rs5[k].nd:=by
  unfold ndAt
  rw [<-HR5.1.1]
  simp [nds,List.getD,hk5]
 have HX7:Sh (R=gr+(rs5[k].nd.pieces.length:Nat) - (rs[k].nd.pieces.length:Nat)):=⟨by rw [HX.1,if_neg (by simp [h0]),if_neg h10,if_neg (by simp [h7]),e1,n1,n2]⟩
 rw [n2] at hp1
 rw [n1] at hp2
 obtain ⟨b,off,rfl,lb,hc⟩:=TR.nat HMR.1 (by omega)
 obtain ⟨b5,off5,rfl,lb5,hc5⟩:=TR.nat HR5.1.2 (by omega)
 have HC1:=Sh.mk (hc k hkr)
 have HC5:=Sh.mk (hc5 k hk5)
 obtain ⟨r,hr⟩:∃ r,r=rs[k]:=⟨_,rfl⟩
 obtain ⟨r5,hr5⟩:∃ r,r=rs5[k]:=⟨_,rfl⟩
 rw [<-hr] at HX7 HC1 hp2
 rw [<-hr5] at HX7 HC5 hp1
 obtain ⟨id,hid⟩:∃ q,q=findX ⟨nds rs,nx⟩ path:=⟨_,rfl⟩
 rw [<-hid] at hat
 simp only [<-hid] at HFP
 have HA2:Sh (∀ (W:World) (hb:Below w.heap.size w W),Calls Tryz.prog 91 #[.agg #[.slice (some ⟨b,off,none⟩) n cap,.int .i64 nx],.int .i64 id] W fun e w'=>e = .returned (.int .i64 (k:Nat))/\Below W.heap.size W w'):=⟨fun W hb=>by have:=HAT.1 id W hb;rw [hat] at this;exact this⟩
 have k0:(0:Int)<=(k:Int):=by omega
 have k1:(k:Int)<(n:Int):=by have:=HN.1;omega
 have k2:(k:Int)<(m5:Int):=by have:=HM5.1;omega
 clear hr hr5 hid hat hlen hk e1 n1 n2 h0 h7 h10 hc hc5 HAT HX HADD HBOOT HAP
 obtain ⟨⟨id9,parent9,name9,dir9,schema9,quota9,len9,pieces9,writer9⟩,loc9,cp9⟩:=r
 obtain ⟨⟨id8,parent8,name8,dir8,schema8,quota8,len8,pieces8,writer8⟩,loc8,cp8⟩:=r5
 dsimp only at *
 obtain ⟨p9,hp9⟩:∃ q,q=pieces9.length:=⟨_,rfl⟩
 obtain ⟨p8,hp8⟩:∃ q,q=pieces8.length:=⟨_,rfl⟩
 rw [<-hp9] at HX7 hp2
 rw [<-hp8] at HX7 hp1
 have HP9:=Sh.mk hp9
 have HP8:=Sh.mk hp8
 clear hp9 hp8 hkr hk5
 go_upto_region 8 with fail
 have HLE:Sh (∀ x,Later W1.drew x->x.cell? ⟨w.heap.size,0,none⟩=some (.slice (some ⟨b,off,none⟩) n cap)/\x.cell? ⟨w.heap.size,1,none⟩=some (.int .i64 nx)/\x.cell? ⟨w.heap.size+1,1,none⟩=some (.string path)):=⟨fun x hx=>by
  have M:=HM.1.below (Below.trans (Below.drew (Below.refl _ _)) hx)
  exact ⟨((M.at 2 rfl).1.2 0 _ rfl).1,((M.at 2 rfl).1.2 1 _ rfl).1,((M.at 1 rfl).1.2 1 _ rfl).1⟩⟩
 have HBX:Sh (∀ x,Later W1.drew x->Below w.heap.size w x):=⟨fun x hx=>(HM.1.below (Below.trans (Below.drew (Below.refl _ _)) hx)).bel⟩
 refine qag (by kernel_rfl) ?_
 refine wpL_v 0 rfl (fun x hx=>by obtain ⟨d0,d1,d2⟩:=HLE.1 x hx;go_simp;try with_reducible rfl) ?_
 try simp only [Act.put,qA,qB,qC]
 refine wpL_v 1 rfl (fun x hx=>by obtain ⟨d0,d1,d2⟩:=HLE.1 x hx;go_simp;try with_reducible rfl) ?_
 try simp only [Act.put,qA,qB,qC]
 refine wpL_v 2 rfl (fun x hx=>by obtain ⟨d0,d1,d2⟩:=HLE.1 x hx;go_simp;try with_reducible rfl) ?_
 try simp only [Act.put,qA,qB,qC]
 refine wpL_v 3 rfl (fun x hx=>by obtain ⟨d0,d1,d2⟩:=HLE.1 x hx;go_simp;try with_reducible rfl) ?_
 try simp only [Act.put,qA,qB,qC]
 refine qaz (i:=4) (v:=.int .i64 id) (f:=87) (args:=#[.agg #[.slice (some ⟨b,off,none⟩) n cap,.int .i64 nx],.string path]) rfl (by kernel_rfl) (by kernel_rfl) (by kernel_rfl) (fun _ _ _ h=>h) (by rfl) ?hya4 (fun x hx=>HFP.1 x (HBX.1 x hx)) ?resta4
 case hya4=>(intro x hx;obtain ⟨d0,d1,d2⟩:=HLE.1 x hx;go_simp;try with_reducible rfl)
 try simp only [Act.put,qA,qB,qC]
 refine qaz (i:=5) (v:=.int .i64 (k:Nat)) (f:=91) (args:=#[.agg #[.slice (some ⟨b,off,none⟩) n cap,.int .i64 nx],.int .i64 id]) rfl (by kernel_rfl) (by kernel_rfl) (by kernel_rfl) (fun _ _ _ h=>h) (by rfl) ?hya5 (fun x hx=>HA2.1 x (HBX.1 x hx)) ?resta5
 case hya5=>(intro x hx;obtain ⟨d0,d1,d2⟩:=HLE.1 x hx;go_simp;try with_reducible rfl)
 try simp only [Act.put,qA,qB,qC]
 refine wpL_v 6 rfl (fun x hx=>by obtain ⟨d0,d1,d2⟩:=HLE.1 x hx;go_simp;try with_reducible rfl) ?_
 try simp only [Act.put,qA,qB,qC]
 refine qbg (by kernel_rfl) ?_ _
 intro W3 hy
 have hb3:=(Below.trans (Below.drew (Below.refl _ _)) hy:Below W1.heap.size W1 W3)
 replace HM:=Sh.mk (HM.1.below hb3)
 replace HB1:=Sh.mk (HB1.1.trans (hb3.mono HB1.1.size))
 clear hb3 hy HLE HBX y0
 go_upto_region 9 with fail
 have HLE:Sh (∀ x,Later W3.drew x->x.cell? ⟨w.heap.size,0,none⟩=some (.slice (some ⟨b,off,none⟩) n cap)/\x.cell? ⟨w2.heap.size,0,none⟩=some (.slice (some ⟨b5,off5,none⟩) m5 c5)/\x.cell? ⟨b,off+k*9+7,none⟩=some (.slice loc9 p9 cp9)/\x.cell? ⟨b5,off5+k*9+7,none⟩=some (.slice loc8 p8 cp8)):=⟨fun x hx=>by
  have hb:Below W3.heap.size W3 x:=Below.trans (Below.drew (Below.refl _ _)) hx
  have M:=HM.1.below hb
  obtain ⟨-,-,-,-,-,-,-,c7,-⟩:=HC1.1.below M.bel lb
  obtain ⟨-,-,-,-,-,-,-,d7,-⟩:=HC5.1.below (HB1.1.trans (hb.mono HB1.1.size)) lb5
  dsimp only at c7 d7
  rw [<-HP9.1] at c7
  rw [<-HP8.1] at d7
  exact ⟨((M.at 2 rfl).1.2 0 _ rfl).1,((M.at 0 rfl).1.2 0 _ rfl).1,c7,d7⟩⟩
 have hw1:IntKind.i64.wrap (gr+(p8:Int))=gr+(p8:Int):=IntWalk.i64_in _ ⟨by omega,by omega⟩
 have hw2:IntKind.i64.wrap (gr+(p8:Int) - (p9:Int))=gr+(p8:Int) - (p9:Int):=IntWalk.i64_in _ ⟨by omega,by omega⟩
 refine qag (by kernel_rfl) ?_
 refine wpL_v 0 rfl (fun x hx=>by obtain ⟨d0,d1,d2,d3⟩:=HLE.1 x hx;go_simp;try with_reducible rfl) ?_
 try simp only [Act.put,qA,qB,qC]
 refine wpL_v 1 rfl (fun x hx=>by obtain ⟨d0,d1,d2,d3⟩:=HLE.1 x hx;go_simp;try with_reducible rfl) ?_
 try simp only [Act.put,qA,qB,qC]
 refine wpL_v 2 rfl (fun x hx=>by obtain ⟨d0,d1,d2,d3⟩:=HLE.1 x hx;go_simp;try with_reducible rfl) ?_
 try simp only [Act.put,qA,qB,qC]
 refine wpL_v 3 rfl (fun x hx=>by obtain ⟨d0,d1,d2,d3⟩:=HLE.1 x hx;go_simp;try with_reducible rfl) ?_
 try simp only [Act.put,qA,qB,qC]
 refine wpL_v 4 rfl (fun x hx=>by obtain ⟨d0,d1,d2,d3⟩:=HLE.1 x hx;go_simp;try with_reducible rfl) ?_
 try simp only [Act.put,qA,qB,qC]
 refine wpL_v 5 rfl (fun x hx=>by obtain ⟨d0,d1,d2,d3⟩:=HLE.1 x hx;go_simp;try with_reducible rfl) ?_
 try simp only [Act.put,qA,qB,qC]
 refine wpL_v 6 rfl (fun x hx=>by obtain ⟨d0,d1,d2,d3⟩:=HLE.1 x hx;go_simp;try with_reducible rfl) ?_
 try simp only [Act.put,qA,qB,qC]
 refine wpL_v 7 rfl (fun x hx=>by obtain ⟨d0,d1,d2,d3⟩:=HLE.1 x hx;go_simp;try with_reducible rfl) ?_
 try simp only [Act.put,qA,qB,qC]
 refine wpL_v 8 rfl (fun x hx=>by obtain ⟨d0,d1,d2,d3⟩:=HLE.1 x hx;go_simp;try with_reducible rfl) ?_
 try simp only [Act.put,qA,qB,qC]
 refine wpL_v 9 rfl (fun x hx=>by obtain ⟨d0,d1,d2,d3⟩:=HLE.1 x hx;go_simp;try with_reducible rfl) ?_
 try simp only [Act.put,qA,qB,qC]
 refine wpL_v 10 rfl (fun x hx=>by obtain ⟨d0,d1,d2,d3⟩:=HLE.1 x hx;go_simp;try with_reducible rfl) ?_
 try simp only [Act.put,qA,qB,qC]
 refine wpL_v 11 rfl (fun x hx=>by obtain ⟨d0,d1,d2,d3⟩:=HLE.1 x hx;go_simp;try with_reducible rfl) ?_
 try simp only [Act.put,qA,qB,qC]
 refine wpL_v 12 rfl (fun x hx=>by obtain ⟨d0,d1,d2,d3⟩:=HLE.1 x hx;go_simp;try with_reducible rfl) ?_
 try simp only [Act.put,qA,qB,qC]
 refine wpL_v 13 rfl (fun x hx=>by obtain ⟨d0,d1,d2,d3⟩:=HLE.1 x hx;go_simp;try with_reducible rfl) ?_
 try simp only [Act.put,qA,qB,qC]
 refine wpL_v 14 rfl (fun x hx=>by obtain ⟨d0,d1,d2,d3⟩:=HLE.1 x hx;go_simp;try with_reducible rfl) ?_
 try simp only [Act.put,qA,qB,qC]
 refine wpL_v 15 rfl (fun x hx=>by obtain ⟨d0,d1,d2,d3⟩:=HLE.1 x hx;go_simp;try with_reducible rfl) ?_
 try simp only [Act.put,qA,qB,qC]
 refine wpL_v 16 rfl (fun x hx=>by obtain ⟨d0,d1,d2,d3⟩:=HLE.1 x hx;go_simp;try with_reducible rfl) ?_
 try simp only [Act.put,qA,qB,qC]
 refine wpL_v 17 rfl (fun x hx=>by obtain ⟨d0,d1,d2,d3⟩:=HLE.1 x hx;go_simp;try with_reducible rfl) ?_
 try simp only [Act.put,qA,qB,qC]
 refine qbg (by kernel_rfl) ?_ _
 intro W4 hy
 have hb4:=(Below.trans (Below.drew (Below.refl _ _)) hy:Below W3.heap.size W3 W4)
 replace HM:=Sh.mk (HM.1.below hb4)
 clear hb4 hy HLE
 go_wp2_with fail
 go_ret
 exact ⟨by rw [HX7.1];rfl,HM.1.bel⟩
theorem nsum_filter (p:NM->Bool) (ns:List NM):nsum (ns.filter p)<=nsum ns:=by
 induction ns with
 | nil=>simp [nsum]
 | cons n ns ih =>
  rw [List.filter_cons]
  split
  ·simp only [nsum];omega
  ·simp only [nsum];omega
theorem qpc (h:qae T=true) {k:Nat} (x:NM) (hx:x.name.size+x.pieces.length<=1000):NFit (setN T k x):=by
 have h1:=qgh h
 have h2:=qbf h
 have h3:=qpo T.nodes k x
 unfold NFit setN
 dsimp only
 rw [List.length_set]
 omega
theorem qmu (hf:NFit T) (e:EM) (g:Int):NFit (qam T e g).1:=by
 unfold qam
 split
 ·exact hf
 ·rename_i hm
  have hm':mayX T e g=true:=by simpa using hm
  unfold mayX at hm'
  simp only [Bool.and_eq_true] at hm'
  have ht:=hm'.1.1
  split
  ·exact hf
  ·split
   ·unfold addX
    repeat' split
    all_goals first | exact hf | exact qpb ht _ _ rfl
   ·split
    ·unfold addX
     repeat' split
     all_goals first | exact hf | exact qpb ht _ _ rfl
    ·split
     ·exact hf
     ·rename_i hid
      obtain ⟨k,hk,hat,-⟩:=qki hid
      have e1:plc T (findX T e.path)=k:=by unfold plc;rw [hat];rfl
      have hp:=qbl ht k hk
      rw [e1]
      split
      ·unfold moveX
       repeat' split
       all_goals first | exact hf | exact qpp ht _ _ k hk hat
      ·split
       ·have h1:=qgh ht
        have h2:=qbf ht
        unfold NFit dropT
        dsimp only
        have h3:=nsum_filter (fun n=>!qal T.nodes 15 n.id (findX T e.path)) T.nodes
        have h4:=List.length_filter_le (fun n:NM=>!qal T.nodes 15 n.id (findX T e.path)) T.nodes
        omega
       ·split
        ·unfold setX
         repeat' split
         all_goals first | exact hf | exact qpc ht _ (by rw [qdx hk];dsimp only;omega)
        ·unfold qbr
         repeat' split
         all_goals first | exact hf | (refine qpc ht _ ?_;rw [qdx hk] at *;simp only [List.length_append,qeh];omega) | (refine qpc ht _ ?_;rw [qdx hk];dsimp only;omega)
theorem qpq (T:TM) (es:List EM) (g:Int) (k:Nat) (h:k<es.length):allX T (es.take (k+1)) g=stepX (allX T (es.take k) g) es[k]:=by
 unfold allX
 rw [List.take_succ_eq_append_getElem h,List.foldl_append]
 rfl
structure AL (w W:World) (L:List (Nat × List Value)) (ob:Nat) (v:Value) (T:TM):Prop where
 mb:MB w W L
 ans:∃ lo hi,TAns W v T lo hi/\w.heap.size+1+1<=lo/\(hi<=ob\/ob<lo)/\hi<=W.heap.size
 fit:NFit T
theorem AL.below {w W W':World} {L:List (Nat × List Value)} {ob:Nat} (h:AL w W L ob v T) (hb:Below W.heap.size W W'):AL w W' L ob v T:=by
 obtain ⟨lo,hi,h1,h2,h3,h4⟩:=h.ans
 exact ⟨h.mb.below hb,⟨lo,hi,h1.below hb,h2,h3,Nat.le_trans h4 hb.size⟩,h.fit⟩
theorem specApplyAll (la:Option Addr) (lc:Nat) (es:List EM) (l1 l2:Nat) (gr:Int) (h:TSee w v T lo hi) (hf:NFit T) (hE:RRow w la (ecs es) l1 l2) (he:∀ e ∈ es,EFit e) (hel:es.length<=1048576):Calls Tryz.prog 13 #[v,.slice la es.length lc,.int .i64 gr] w fun r w'=>qdw (allX T es gr) w r w':=by
 have HCP:=Sh.mk (fun (W:World) (hb:Below w.heap.size w W)=>qpv (h.below hb) hf)
 have HF:=Sh.mk hf
 obtain ⟨R,hR⟩:∃ R,R=allX T es gr:=⟨_,rfl⟩
 rw [<-hR]
 have HR:=Sh.mk hR
 obtain ⟨a,cap,rs,rfl,hr,hm⟩:=h
 obtain ⟨nodes,nx⟩:=T
 obtain ⟨n,hn⟩:∃ n,n=rs.length:=⟨_,rfl⟩
 dsimp only at *
 rw [<-hn] at HCP ⊢
 have HE:=Sh.mk hE
 have HFE:=Sh.mk he
 obtain ⟨ln,hln⟩:∃ n,n=es.length:=⟨_,rfl⟩
 rw [<-hln] at hel ⊢
 have HLN:=Sh.mk hln
 clear hn hm hr hf hE he hR hln
 have HM0:=Sh.mk (MB.two w #[.slice a n cap,.int .i64 nx] #[.slice none 0 0,.int .i64 0] 42 42)
 go_enter Tryz.func13,Tryz.ntmps13
 go_upto_region 1 with fail
 refine qaa (fun W=>MB w W [(w.heap.size+1,[.slice none 0 0,.int .i64 0]),(w.heap.size,[.slice a n cap,.int .i64 nx])]) HM0.1 ?_
 intro W0 hM
 have HM:=Sh.mk hM
 clear hM HM0
 have x0:=((HM.1.at 1 rfl).1.2 0 _ rfl).1
 have x1:=((HM.1.at 1 rfl).1.2 1 _ rfl).1
 have hw0:=Sh.mk (HM.1.at 0 rfl).1.1
 go_upto_region 2 with (go_at_call 44;refine (HCP.1 _ HM.1.bel).mono ?_;rintro e w1 ⟨vv,rfl,hans,hb1⟩;have HANS:=Sh.mk hans;obtain ⟨a5,c5,rs5,rfl,hr5,-,-⟩:=hans.see_form;replace HM:=Sh.mk (HM.1.below hb1);clear hans hr5 hb1 x0 x1)
 have HAL:Sh (AL w (w1.alloc (.cells #[.slice a5 rs5.length c5,.int .i64 nx] 42)) [(w1.heap.size,[.slice a5 rs5.length c5,.int .i64 nx]),(w.heap.size+1,[.slice none 0 0,.int .i64 0]),(w.heap.size,[.slice a n cap,.int .i64 nx])] w1.heap.size (.agg #[.slice a5 rs5.length c5,.int .i64 nx]) ⟨nodes,nx⟩):=⟨HM.1.new _ _,⟨_,_,HANS.1.below ((Below.refl _ _).alloc (Nat.le_refl _) _),hw0.1,.inl (Nat.le_refl _),by simp⟩,HF.1⟩
 obtain ⟨m5,hm5⟩:∃ m,m=rs5.length:=⟨_,rfl⟩
 rw [<-hm5] at HAL ⊢
 refine qaa (fun W=>AL w W [(w1.heap.size,[.slice a5 m5 c5,.int .i64 nx]),(w.heap.size+1,[.slice none 0 0,.int .i64 0]),(w.heap.size,[.slice a n cap,.int .i64 nx])] w1.heap.size (.agg #[.slice a5 m5 c5,.int .i64 nx]) ⟨nodes,nx⟩) HAL.1 ?_
 rintro W1 hA1
 replace HAL:=Sh.mk hA1
 clear hA1 HM HANS hm5
 go_wp2_with fail
 go_loopw [2,9] (fun gv iv wr=>∃ (k:Nat) (g:Int) (ka:Option Addr) (km kc:Nat) (Tk:TM),gv = .int .i64 g/\iv = .int .i64 k/\k<=ln/\Sh (allX ⟨nodes,nx⟩ (es.take k) gr=(Tk,g))/\Sh (AL w wr [(w1.heap.size,[.slice ka km kc,.int .i64 Tk.next]),(w.heap.size+1,[.slice none 0 0,.int .i64 0]),(w.heap.size,[.slice a n cap,.int .i64 nx])] w1.heap.size (.agg #[.slice ka km kc,.int .i64 Tk.next]) Tk)) (fun _ iv _=>ln - (intOf iv).toNat)
 case atStart=>exact ⟨0,gr,_,_,_,⟨nodes,nx⟩,rfl,rfl,Nat.zero_le _,⟨by simp [allX]⟩,HAL⟩
 case round =>
  clear HAL
  obtain ⟨k,g,ka,km,kc,Tk,rfl,rfl,hk,HTK,HA⟩:=hrel
  have k0:(0:Int)<=(k:Int):=by omega
  by_cases hlt:k<ln
  ·have k1:(k:Int)<(ln:Int):=by omega
   have hkl:k<es.length:=by have:=HLN.1;omega
   have hst:=qpq ⟨nodes,nx⟩ es gr k hkl
   rw [HTK.1] at hst
   obtain ⟨b,off,hla,lb,hc⟩:=qst HE.1 (by omega)
   subst hla
   have hce:=hc k hkl
   have HEF:=Sh.mk (HFE.1 _ (List.getElem_mem hkl))
   obtain ⟨e,hee⟩:∃ e,e=es[k]:=⟨_,rfl⟩
   rw [<-hee] at hst hce HEF
   clear hee hc
   obtain ⟨kind,path,dest,num,who⟩:=e
   dsimp only at hce
   have HCE:=Sh.mk hce
   clear hce
   obtain ⟨lo9,hi9,hans9,hlo9,hob9,hhi9⟩:=HA.1.ans
   have HAP:=Sh.mk (fun (W:World) (hb:Below wr.heap.size wr W)=>qmt ⟨kind,path,dest,num,who⟩ g (hans9.see.below hb) HA.1.fit HEF.1)
   have HGA:=Sh.mk (fun (W:World) (hb:Below wr.heap.size wr W)=>specGroupsAfter ⟨kind,path,dest,num,who⟩ g (hans9.see.below hb) HA.1.fit HEF.1)
   have HFT:=Sh.mk (qmu HA.1.fit ⟨kind,path,dest,num,who⟩ g)
   have HST:Sh (allX ⟨nodes,nx⟩ (es.take (k+1)) gr=if (qam Tk ⟨kind,path,dest,num,who⟩ g).2=0 then ((qam Tk ⟨kind,path,dest,num,who⟩ g).1,qba Tk ⟨kind,path,dest,num,who⟩ g) else (Tk,g)):=⟨hst⟩
   obtain ⟨RT,rc,hRR⟩:∃ RT rc,qam Tk ⟨kind,path,dest,num,who⟩ g=(RT,rc):=⟨_,_,rfl⟩
   obtain ⟨gx,hgx⟩:∃ q,q=qba Tk ⟨kind,path,dest,num,who⟩ g:=⟨_,rfl⟩
   rw [hRR] at HAP HST HFT
   simp only [<-hgx] at HGA HST
   dsimp only at HST HFT
   obtain ⟨kx,hkx⟩:∃ q,q=Tk.next:=⟨_,rfl⟩
   have HKX:=Sh.mk hkx
   rw [<-hkx] at HA HAP HGA
   have HL9:=Sh.mk (And.intro hlo9 (And.intro hob9 hhi9))
   clear hst hRR hgx hkx hans9 hlo9 hob9 hhi9 hkl
   go_upto_region 5 with fail
   go_cut [10,11] from 20 to 29 (fun u10 u11 wx=>∃ (nb:Nat) (ra:Option Addr) (rm rcp:Nat),u10 = .pointer (some ⟨nb,0,none⟩)/\u11 = .int .i64 rc/\Sh (WCells wx nb [.slice ra rm rcp,.int .i64 RT.next]/\Below wr.heap.size wr wx/\wr.heap.size<=nb/\∃ lo8 hi8,TAns wx (.agg #[.slice ra rm rcp,.int .i64 RT.next]) RT lo8 hi8/\wr.heap.size<=lo8/\hi8<=wx.heap.size))
   case first =>
    have z0:=((HA.1.mb.at 0 rfl).1.2 0 _ rfl).1
    have z1:=((HA.1.mb.at 0 rfl).1.2 1 _ rfl).1
    have lz:=(HA.1.mb.at 0 rfl).1.1
    have hB:=HA.1.mb.bel
    have c0:=(hB.cell (p:=⟨b,off+k*5,none⟩) lb).trans HCE.1.1
    have c1:=(hB.cell (p:=⟨b,off+k*5+1,none⟩) lb).trans HCE.1.2.1
    have c2:=(hB.cell (p:=⟨b,off+k*5+2,none⟩) lb).trans HCE.1.2.2.1
    have c3:=(hB.cell (p:=⟨b,off+k*5+3,none⟩) lb).trans HCE.1.2.2.2.1
    have c4:=(hB.cell (p:=⟨b,off+k*5+4,none⟩) lb).trans HCE.1.2.2.2.2
    have lbr:b<wr.heap.size:=Nat.lt_of_lt_of_le lb hB.size
    have ne1:¬ (wr.heap.size=w1.heap.size):=by omega
    have ne2:¬ (w1.heap.size=wr.heap.size):=by omega
    have ne3:¬ (wr.heap.size=b):=by omega
    have ne4:¬ (b=wr.heap.size):=by omega
    clear hB
    go_region_held3 (fun w'=>w'.cell? ⟨w1.heap.size,0,none⟩=some (.slice ka km kc)/\w'.cell? ⟨w1.heap.size,1,none⟩=some (.int .i64 kx)/\w'.cell? ⟨b,off+k*5,none⟩=some (.int .i64 kind)/\w'.cell? ⟨b,off+k*5+1,none⟩=some (.string path)/\w'.cell? ⟨b,off+k*5+2,none⟩=some (.string dest)/\w'.cell? ⟨b,off+k*5+3,none⟩=some (.int .i64 num)/\w'.cell? ⟨b,off+k*5+4,none⟩=some (.int .i64 who)) (first | go_keep | (rw [hb2.cell (p:=⟨w1.heap.size,0,none⟩) (by simp;omega),hb2.cell (p:=⟨w1.heap.size,1,none⟩) (by simp;omega),hb2.cell (p:=⟨b,off+k*5,none⟩) (by simp;omega),hb2.cell (p:=⟨b,off+k*5+1,none⟩) (by simp;omega),hb2.cell (p:=⟨b,off+k*5+2,none⟩) (by simp;omega),hb2.cell (p:=⟨b,off+k*5+3,none⟩) (by simp;omega),hb2.cell (p:=⟨b,off+k*5+4,none⟩) (by simp;omega)];assumption)) ((go_at_call 45;refine (HAP.1 _ (by first | exact Below.drew (Below.refl _ _) | exact ((Below.refl _ _).alloc (Nat.le_refl _) _).drew | exact Below.alloc (Below.drew (Below.refl _ _)) (Nat.le_refl _) _)).mono ?_;rintro e w2 ⟨vv,rfl,hans,hb2⟩;dsimp only at hans;have HANS:=Sh.mk hans;obtain ⟨ra,rcp,rs5,rfl,hr5,-,-⟩:=hans.see_form;have hbw:Below wr.heap.size wr w2:=(by first | exact (Below.drew (Below.refl _ _)).trans hb2 | exact (((Below.refl _ _).alloc (Nat.le_refl _) _).drew).trans (hb2.mono (by simp)) | exact (Below.alloc (Below.drew (Below.refl _ _)) (Nat.le_refl _) _).trans (hb2.mono (by simp)));have f0:=(hbw.cell (p:=⟨w1.heap.size,0,none⟩) lz).trans z0;have f1:=(hbw.cell (p:=⟨w1.heap.size,1,none⟩) lz).trans z1;have f2:=(hbw.cell (p:=⟨b,off+k*5,none⟩) lbr).trans c0;have f3:=(hbw.cell (p:=⟨b,off+k*5+1,none⟩) lbr).trans c1;have f4:=(hbw.cell (p:=⟨b,off+k*5+2,none⟩) lbr).trans c2;have f5:=(hbw.cell (p:=⟨b,off+k*5+3,none⟩) lbr).trans c3;have f6:=(hbw.cell (p:=⟨b,off+k*5+4,none⟩) lbr).trans c4;have HBW:=Sh.mk hbw;have HB2:=Sh.mk hb2;(try (have hx:WCells w2 wr.heap.size [.slice none 0 0,.int .i64 0]:=WCells.grow (w:=wr.drew.alloc (.cells #[.slice none 0 0,.int .i64 0] 42)) (qad wr.drew #[.slice none 0 0,.int .i64 0] 42) hb2;have HXX:=Sh.mk hx;obtain ⟨p0,pf0⟩:=hx.2 0 _ rfl;obtain ⟨p1,pf1⟩:=hx.2 1 _ rfl;clear hx));have lz2:w1.heap.size<w2.heap.size:=(by have q:=hb2.size;simp at q;omega);have lb2:b<w2.heap.size:=(by have q:=hb2.size;simp at q;omega);clear hans hr5))
    all_goals go_wp2_with fail
    all_goals go_meet
    all_goals
     first
     | exact ⟨w2.heap.size,ra,rs5.length,rcp,rfl,rfl,⟨qad w2 #[.slice ra rs5.length rcp,.int .i64 RT.next] 42,HBW.1.alloc HBW.1.size _,HBW.1.size,_,_,HANS.1.below ((Below.refl _ _).alloc (Nat.le_refl _) _),Nat.le_refl _,by simp⟩⟩
     | exact ⟨wr.heap.size,ra,rs5.length,rcp,rfl,rfl,⟨(HXX.1.set 0 _ (by simp)).set 1 _ (by simp),(HBW.1.setCell (p:=⟨wr.heap.size,0,none⟩) (Nat.le_refl _) _).setCell (p:=⟨wr.heap.size,1,none⟩) (Nat.le_refl _) _,Nat.le_refl _,_,_,(HANS.1.box wr.heap.size 0 _ (by simp)).box wr.heap.size 1 _ (by simp),by simp,by simp⟩⟩
   case rest =>
   obtain ⟨nb,ra,rm,rcp,rfl,rfl,hC⟩:=hcut
   have HC:=hC
   clear hC
   obtain ⟨rx,hrx⟩:∃ q,q=RT.next:=⟨_,rfl⟩
   rw [<-hrx] at HC
   have HRX:=Sh.mk hrx
   clear hrx
   have hwz:=(HA.1.mb.at 0 rfl).1.1
   have hRT:Sh (AL w wc [(w1.heap.size,[.slice ka km kc,.int .i64 kx]),(w.heap.size+1,[.slice none 0 0,.int .i64 0]),(w.heap.size,[.slice a n cap,.int .i64 nx])] w1.heap.size (.agg #[.slice ka km kc,.int .i64 kx]) Tk):=⟨HA.1.below HC.1.2.1⟩
   by_cases h0:rc=0
   case neg =>
    have b0:(rc==0)=false:=by simp [h0]
    have HS1:Sh (allX ⟨nodes,nx⟩ (es.take (k+1)) gr=(Tk,g)):=⟨by rw [HST.1,if_neg h0]⟩
    clear h0
    go_wp2_with fail
    go_roundw
    case rel=>exact ⟨k+1,g,ka,km,kc,Tk,rfl,by go_num,by omega,HS1,by rw [<-HKX.1];exact hRT⟩
    case measure=>simp [intOf];omega
   have b0:(rc==0)=true:=by simp [h0]
   have HS1:Sh (allX ⟨nodes,nx⟩ (es.take (k+1)) gr=(RT,gx)):=⟨by rw [HST.1,if_pos h0]⟩
   clear h0 HAP
   go_upto_region 7 with fail
   have HLE:Sh (∀ x,Later wc.drew x->x.cell? ⟨w1.heap.size,0,none⟩=some (.slice ka km kc)/\x.cell? ⟨w1.heap.size,1,none⟩=some (.int .i64 kx)/\x.cell? ⟨b,off+k*5,none⟩=some (.int .i64 kind)/\x.cell? ⟨b,off+k*5+1,none⟩=some (.string path)/\x.cell? ⟨b,off+k*5+2,none⟩=some (.string dest)/\x.cell? ⟨b,off+k*5+3,none⟩=some (.int .i64 num)/\x.cell? ⟨b,off+k*5+4,none⟩=some (.int .i64 who)):=⟨fun x hx=>by
    have D:=hRT.1.below (Below.trans (Below.drew (Below.refl _ _)) hx)
    have hB:=D.mb.bel
    exact ⟨((D.mb.at 0 rfl).1.2 0 _ rfl).1,((D.mb.at 0 rfl).1.2 1 _ rfl).1,(hB.cell (p:=⟨b,off+k*5,none⟩) lb).trans HCE.1.1,(hB.cell (p:=⟨b,off+k*5+1,none⟩) lb).trans HCE.1.2.1,(hB.cell (p:=⟨b,off+k*5+2,none⟩) lb).trans HCE.1.2.2.1,(hB.cell (p:=⟨b,off+k*5+3,none⟩) lb).trans HCE.1.2.2.2.1,(hB.cell (p:=⟨b,off+k*5+4,none⟩) lb).trans HCE.1.2.2.2.2⟩⟩
   have HBX:Sh (∀ x,Later wc.drew x->Below wr.heap.size wr x):=⟨fun x hx=>HC.1.2.1.trans ((Below.trans (Below.drew (Below.refl _ _)) hx:Below wc.heap.size wc x).mono HC.1.2.1.size)⟩
   refine qag (by kernel_rfl) ?_
   refine wpL_v 0 rfl (fun x hx=>by obtain ⟨d0,d1,d2,d3,d4,d5,d6⟩:=HLE.1 x hx;go_simp;try with_reducible rfl) ?_
   try simp only [Act.put,qA,qB,qC]
   refine wpL_v 1 rfl (fun x hx=>by obtain ⟨d0,d1,d2,d3,d4,d5,d6⟩:=HLE.1 x hx;go_simp;try with_reducible rfl) ?_
   try simp only [Act.put,qA,qB,qC]
   refine wpL_v 2 rfl (fun x hx=>by obtain ⟨d0,d1,d2,d3,d4,d5,d6⟩:=HLE.1 x hx;go_simp;try with_reducible rfl) ?_
   try simp only [Act.put,qA,qB,qC]
   refine wpL_v 3 rfl (fun x hx=>by obtain ⟨d0,d1,d2,d3,d4,d5,d6⟩:=HLE.1 x hx;go_simp;try with_reducible rfl) ?_
   try simp only [Act.put,qA,qB,qC]
   refine wpL_v 4 rfl (fun x hx=>by obtain ⟨d0,d1,d2,d3,d4,d5,d6⟩:=HLE.1 x hx;go_simp;try with_reducible rfl) ?_
   try simp only [Act.put,qA,qB,qC]
   refine wpL_v 5 rfl (fun x hx=>by obtain ⟨d0,d1,d2,d3,d4,d5,d6⟩:=HLE.1 x hx;go_simp;try with_reducible rfl) ?_
   try simp only [Act.put,qA,qB,qC]
   refine qaz (i:=6) (v:=.int .i64 gx) (f:=46) (args:=#[.agg #[.slice ka km kc,.int .i64 kx],ev ⟨kind,path,dest,num,who⟩,.int .i64 g]) rfl (by kernel_rfl) (by kernel_rfl) (by kernel_rfl) (fun _ _ _ h=>h) (by rfl) ?hya6 (fun x hx=>HGA.1 x (HBX.1 x hx)) ?resta6
   case hya6=>(intro x hx;obtain ⟨d0,d1,d2,d3,d4,d5,d6⟩:=HLE.1 x hx;go_simp;try with_reducible rfl)
   try simp only [Act.put,qA,qB,qC]
   refine wpL_v 7 rfl (fun x hx=>by obtain ⟨d0,d1,d2,d3,d4,d5,d6⟩:=HLE.1 x hx;go_simp;try with_reducible rfl) ?_
   try simp only [Act.put,qA,qB,qC]
   refine qbg (by kernel_rfl) ?_ _
   intro W5 hy
   have hb5:=(Below.trans (Below.drew (Below.refl _ _)) hy:Below wc.heap.size wc W5)
   have HW5:=Sh.mk (And.intro (hRT.1.below hb5) (And.intro (HC.1.1.grow hb5) (HC.1.2.1.trans (hb5.mono HC.1.2.1.size))))
   obtain ⟨lo8,hi8,h81,h82,h83⟩:=HC.1.2.2.2
   have HT8:=Sh.mk (h81.below hb5)
   have HS8:Sh (hi8<=W5.heap.size):=⟨Nat.le_trans h83 hb5.size⟩
   clear h81 h83 hb5 hy HLE HBX
   obtain ⟨z0,zf0⟩:=(HW5.1.1.mb.at 0 rfl).1.2 0 _ rfl
   obtain ⟨z1,zf1⟩:=(HW5.1.1.mb.at 0 rfl).1.2 1 _ rfl
   have n0:=(HW5.1.2.1.2 0 _ rfl).1
   have n1:=(HW5.1.2.1.2 1 _ rfl).1
   have hnw:¬ (nb=w1.heap.size):=by have:=HC.1.2.2.1;omega
   have hnw2:¬ (w1.heap.size=nb):=by have:=HC.1.2.2.1;omega
   go_wp2_with fail
   go_roundw
   case rel =>
    refine ⟨k+1,gx,ra,rm,rcp,RT,rfl,by go_num,by omega,HS1,⟨?_⟩⟩
    rw [<-HRX.1]
    refine ⟨(HW5.1.1.mb.put 0 rfl 0 _ (by simp)).put 0 rfl 1 _ (by simp),⟨lo8,hi8,(HT8.1.box w1.heap.size 0 _ (by omega)).box w1.heap.size 1 _ (by omega),?_,.inr (by omega),?_⟩,HFT.1⟩
    ·have:=HL9.1
     have h5:=(HA.1.mb.at 1 rfl).1.1
     omega
    ·have:=HS8.1
     simp
     omega
   case measure=>simp [intOf];omega
  ·have k1:¬ ((k:Int)<(ln:Int)):=by omega
   have hall:es.take k=es:=List.take_of_length_le (by have:=HLN.1;omega)
   rw [hall,<-HR.1] at HTK
   obtain ⟨z0,zf0⟩:=(HA.1.mb.at 0 rfl).1.2 0 _ rfl
   obtain ⟨z1,zf1⟩:=(HA.1.mb.at 0 rfl).1.2 1 _ rfl
   obtain ⟨q0,qf0⟩:=(HA.1.mb.at 1 rfl).1.2 0 _ rfl
   obtain ⟨q1,qf1⟩:=(HA.1.mb.at 1 rfl).1.2 1 _ rfl
   obtain ⟨kx,hkx⟩:∃ q,q=Tk.next:=⟨_,rfl⟩
   rw [<-hkx] at HA z1
   have HFIN:Sh (FinT w ((wr.setCell ⟨w.heap.size+1,0,none⟩ (.slice ka km kc)).setCell ⟨w.heap.size+1,1,none⟩ (.int .i64 kx)) (w.heap.size+1) (.slice ka km kc) kx Tk):=⟨by
    obtain ⟨lo9,hi9,h1,h2,h3,h4⟩:=HA.1.ans
    have M2:=(HA.1.mb.put 1 rfl 0 (.slice ka km kc) (by simp)).put 1 rfl 1 (.int .i64 kx) (by simp)
    refine ⟨((M2.at 1 rfl).1.2 0 _ rfl).1,((M2.at 1 rfl).1.2 1 _ rfl).1,?_,M2.bel⟩
    have hs:((wr.setCell ⟨w.heap.size+1,0,none⟩ (.slice ka km kc)).setCell ⟨w.heap.size+1,1,none⟩ (.int .i64 kx)).heap.size=wr.heap.size:=by simp
    rw [hs]
    exact ((h1.box (w.heap.size+1) 0 _ (by omega)).box (w.heap.size+1) 1 _ (by omega)).wide (by omega) h4⟩
   clear hall hkx
   go_wp2_with fail
   refine qac (fun W=>FinT w W (w.heap.size+1) (.slice ka km kc) kx Tk) HFIN.1 ?_
   rintro W8 ⟨r0,r1,hans,hbel⟩
   exact bodyPost_ret (v:=.tuple #[.agg #[.slice ka km kc,.int .i64 kx],.int .i64 g]) (by simp [results,Tryz.results13,go_sem,r0,r1]) rfl ⟨_,by rw [HTK.1],by rw [HTK.1];exact hans,hbel⟩
end Go.Proofs.YtoglebfiobofoaaGreatDoor
/- RecM: . -/
namespace Go.Proofs.YtoglebfiobofoaaGreatDoor
set_option maxRecDepth 100000
set_option maxHeartbeats 16000000
open Go.RowKit
attribute [local go_sem ↓] Go.wp_at_zero Go.wp_at_succ
def nmNew:ByteArray:=⟨#[108,111,103,43]⟩
def txtOf (fs:List FM) (n:ByteArray):ByteArray:=((fs.find? (fun f=>decide (f.name=n))).map (·.text)).getD ⟨#[]⟩
def isAt (fs:List FM) (n:ByteArray):Bool:=(fs.find? (fun f=>decide (f.name=n))).isSome
theorem qmn (fs:List FM) (n:ByteArray):fileV fs n = .tuple #[.string (txtOf fs n),.bool (isAt fs n)]:=by
 unfold fileV txtOf isAt
 cases fs.find? (fun f=>decide (f.name=n)) <;> rfl
def dropA:List AM:=[⟨4,nmNew,⟨#[]⟩,⟨#[]⟩⟩]
def newA (s:ByteArray):List AM:=[⟨1,nmNew,s,⟨#[]⟩⟩,⟨2,nmNew,⟨#[]⟩,⟨#[]⟩⟩,⟨3,nmNew,⟨#[]⟩,nmLog⟩]
def recA (fs:List FM):List AM:=(if isAt fs nmNew then dropA else [])++(if logAt (txtOf fs nmLog)<(txtOf fs nmLog).size then newA ((txtOf fs nmLog).extract 0 (logAt (txtOf fs nmLog))) else [])
def recT (fs:List FM):TM × Int:=allX newX (logE (txtOf fs nmLog)) 1
def RcvPost (T:TM) (g:Int) (A:List AM) (ok:Bool) (w:World) (e:Ending) (w':World):Prop:=
 ∃ (vt:Value) (va:Option Addr) (c lo hi l1 l2:Nat),e = .returned (.tuple #[vt,.int .i64 g,.slice va A.length c,.bool ok])/\TAns w' vt T lo hi/\FRw w' va (acs A) l1 l2/\A.length<=c /\
  (w.heap.size<=lo/\hi<=w'.heap.size/\w.heap.size<=l1/\l2<=w'.heap.size/\(hi<=l1\/l2<=lo))/\Below w.heap.size w w'
structure AC (B:Nat) (W:World) (v:Value) (A:List AM) (lo hi:Nat):Prop where
 own:W.ownsRow B 37 4 v A.length (acs A)
 far:∀ q,v.ownBlock=some q->q<lo\/hi<=q
 siz:hi<=W.heap.size
theorem AC.below {B:Nat} {W W':World} {v:Value} {A:List AM} {lo hi:Nat} (h:AC B W v A lo hi) (hb:Below W.heap.size W W'):AC B W' v A lo hi:=
 ⟨h.own.kept (row:=none) ⟨hb.os,hb.tape,hb.output,hb.size,fun k hk _=>hb.block k hk⟩ (Classical.em _),h.far,Nat.le_trans h.siz hb.size⟩
theorem AC.set {B:Nat} {W:World} {v:Value} {A:List AM} {lo hi:Nat} (h:AC B W v A lo hi) (b i:Nat) (x:Value) (hb:b<B):AC B (W.setCell ⟨b,i,none⟩ x) v A lo hi:=
 ⟨h.own.kept (qak W b i x) (.inr fun e=>by have:=(h.own.lt b e).1;omega),h.far,by simpa using h.siz⟩
theorem AC.more {B:Nat} {W Wa W':World} {v v':Value} {A D:List AM} {n lo hi:Nat} (h:AC B W v A lo hi) (ha:Below W.heap.size W Wa) (ho:W'.ownsRow B 37 4 v' (A.length+n) (acs A++acs D)) (hn:n=D.length) (hg:Wa.grownBy W' v.ownBlock) (hat:v'.ownBlock=v.ownBlock\/v'.ownBlock=some Wa.heap.size):AC B W' v' (A++D) lo hi:=by
 refine ⟨?_,fun q e=>?_,Nat.le_trans h.siz (Nat.le_trans ha.size hg.size)⟩
 ·subst hn
  rw [List.length_append]
  unfold acs at ho ⊢
  rw [List.flatMap_append]
  exact ho
 ·rcases hat with e2 | e2
  ·exact h.far q (by rw [<-e2];exact e)
  ·rw [e2] at e;cases e;exact .inr (Nat.le_trans h.siz ha.size)
theorem AC.fin {B:Nat} {W:World} {v:Value} {A:List AM} {lo hi:Nat} (h:AC B W v A lo hi) (hw:B<=W.heap.size):∃ (va:Option Addr) (c l1 l2:Nat),v = .slice va A.length c/\FRw W va (acs A) l1 l2/\A.length<=c/\B<=l1/\l2<=W.heap.size/\(hi<=l1\/l2<=lo):=by
 have hf:=h.far
 have ho:=h.own
 obtain ⟨h1,⟨rfl,h0⟩ | ⟨g,cap,cur,rfl,hB,hc,hn,_⟩⟩:=h.own
 ·have e:A=[]:=List.eq_nil_of_length_eq_zero h0
  subst e
  exact ⟨none,0,W.heap.size,W.heap.size,rfl,.inl ⟨rfl,rfl⟩,Nat.le_refl _,hw,Nat.le_refl _,.inl h.siz⟩
 ·have hg:=(Array.getElem?_eq_some_iff.1 hc).1
  exact ⟨_,cap,g,g+1,rfl,.inr ⟨g,rfl,Nat.le_refl _,by omega,qar ho⟩,hn,hB,hg,by rcases hf g rfl with e | e <;> omega⟩
theorem RcvPost.mk {B:Nat} {T:TM} {g:Int} {A:List AM} {ok:Bool} {w w':World} {vt v:Value} {lo hi hi':Nat} (ht:TAns w' vt T lo hi) (ha:AC B w' v A lo hi') (hh:hi<=hi') (hlo:w.heap.size<=lo) (hB:w.heap.size<=B) (hB':B<=w'.heap.size) (hb:Below w.heap.size w w'):RcvPost T g A ok w (.returned (.tuple #[vt,.int .i64 g,v,.bool ok])) w':=by
 obtain ⟨va,c,l1,l2,rfl,h1,h2,h3,h4,h5⟩:=ha.fin hB'
 exact ⟨vt,va,c,lo,hi,l1,l2,rfl,ht,h1,h2,⟨hlo,Nat.le_trans hh ha.siz,Nat.le_trans hB h3,h4,by omega⟩,hb⟩
theorem qqo:(Tryz.prog.info? 37).map (fun i=>(i.zero,i.size,i.bytes))=some (some (.agg #[.int .i64 0,.string ⟨#[]⟩,.string ⟨#[]⟩,.string ⟨#[]⟩]),4,56):=by kernel_rfl
theorem readE_fit (s:ByteArray):EFit (readE s).1:=by
 unfold readE
 split
 ·unfold EFit qev part1 part2
  have h1:=qda s 2
  have h2:=qda s ((r3 (qan s 2)).2.1:Nat)
  unfold part1
  dsimp only
  omega
 ·exact ⟨by decide,by decide⟩
theorem qqp (s:ByteArray):∀ e ∈ logE s,EFit e:=by
 intro e he
 unfold logE recE at he
 obtain ⟨x,_,rfl⟩:=List.mem_map.1 he
 exact readE_fit _
theorem qod (w:World) (lo hi:Nat):TAns w (.agg #[.slice none 0 0,.int .i64 0]) ⟨[],0⟩ lo hi:=⟨none,0,[],rfl,rfl,Nat.le_refl _,.inl rfl⟩
structure TL (w0 W:World) (L:List (Nat × List Value)) (S H:List (Value × TM × Nat × Nat)):Prop where
 mb:MB w0 W L
 ans:∀ s ∈ S,TAns W s.1 s.2.1 s.2.2.1 s.2.2.2/\w0.heap.size<=s.2.2.1/\s.2.2.2<=W.heap.size
 far:∀ s ∈ S,∀ p ∈ L,p.1<s.2.2.1\/s.2.2.2<=p.1
 apart:S.Pairwise fun s t=>s.2.2.2<=t.2.2.1\/t.2.2.2<=s.2.2.1
 held:∀ s ∈ H,THeld W s.1 1 s.2.1 s.2.2.1 s.2.2.2/\s.2.2.2<=W.heap.size
 hfar:∀ s ∈ H,∀ p ∈ L,p.1<s.2.2.1\/s.2.2.2<=p.1
 hap:∀ s ∈ H,∀ t ∈ S,s.2.2.2<=t.2.2.1\/t.2.2.2<=s.2.2.1
section
variable {w0 W W':World} {L:List (Nat × List Value)} {S H:List (Value × TM × Nat × Nat)}
theorem TL.below (h:TL w0 W L S H) (hb:Below W.heap.size W W'):TL w0 W' L S H:=
 ⟨h.mb.below hb,fun s hs=>⟨(h.ans s hs).1.below hb,(h.ans s hs).2.1,Nat.le_trans (h.ans s hs).2.2 hb.size⟩,h.far,h.apart,fun s hs=>⟨(h.held s hs).1.below hb,Nat.le_trans (h.held s hs).2 hb.size⟩,h.hfar,h.hap⟩
theorem TL.bel (h:TL w0 W L S H):Below w0.heap.size w0 W:=h.mb.bel
theorem TL.of (h:MB w0 W L):TL w0 W L [] []:=⟨h,fun _ h=>(by cases h),fun _ h=>(by cases h),.nil,fun _ h=>(by cases h),fun _ h=>(by cases h),fun _ h=>(by cases h)⟩
theorem TL.new (h:TL w0 W L S H) (cs:Array Value) (t:TypeId):TL w0 (W.alloc (.cells cs t)) ((W.heap.size,cs.toList)::L) S H:=by
 have hb:Below W.heap.size W (W.alloc (.cells cs t)):=(Below.refl _ _).alloc (Nat.le_refl _) _
 refine ⟨h.mb.new cs t,(h.below hb).ans,fun s hs p hp=>?_,h.apart,(h.below hb).held,fun s hs p hp=>?_,h.hap⟩
 ·rcases List.mem_cons.1 hp with rfl | hp
  ·exact .inr (h.ans s hs).2.2
  ·exact h.far s hs p hp
 ·rcases List.mem_cons.1 hp with rfl | hp
  ·exact .inr (h.held s hs).2
  ·exact h.hfar s hs p hp
theorem TL.at (h:TL w0 W L S H) (i:Nat) {v:Value} {T:TM} {lo hi:Nat} (hs:S[i]?=some (v,T,lo,hi)):TAns W v T lo hi:=(h.ans _ (List.mem_of_getElem? hs)).1
theorem TL.setBox (h:TL w0 W L S H) (i:Nat) {b:Nat} {X:List Value} (hi:L[i]?=some (b,X)) (j:Nat) (v:Value) (hj:j<X.length):TL w0 (W.setCell ⟨b,j,none⟩ v) (L.set i (b,X.set j v)) S H:=by
 have hm:(b,X) ∈ L:=List.mem_of_getElem? hi
 have ht:Turned W (W.setCell ⟨b,j,none⟩ v) b (b+1):=Turned.of_grown (qak W b j v) (Nat.le_refl _) (by omega)
 refine ⟨h.mb.put i hi j v hj,fun s hs=>?_,fun s hs p hp=>?_,h.apart,fun s hs=>?_,fun s hs p hp=>?_,h.hap⟩
 ·obtain ⟨h1,h2,h3⟩:=h.ans s hs
  have hf:=h.far s hs _ hm
  dsimp only at hf
  exact ⟨h1.turned ht (by omega),h2,by simpa using h3⟩
 ·rcases List.mem_or_eq_of_mem_set hp with q | q
  ·exact h.far s hs p q
  ·rw [q]
   have:=h.far s hs _ hm
   exact this
 ·obtain ⟨h1,h3⟩:=h.held s hs
  have hf:=h.hfar s hs _ hm
  dsimp only at hf
  exact ⟨h1.turned ht (by omega),by simpa using h3⟩
 ·rcases List.mem_or_eq_of_mem_set hp with q | q
  ·exact h.hfar s hs p q
  ·rw [q]
   have:=h.hfar s hs _ hm
   exact this
end
theorem qen {W:World} {u:Value} {T:TM} {lo hi:Nat} (h:TAns W u T lo hi):∃ c m cc,u = .agg #[.slice c m cc,.int .i64 T.next]:=by
 obtain ⟨c,cc,ts,rfl,_⟩:=h
 exact ⟨c,_,cc,rfl⟩
structure ES (w wx:World) (g B:Nat) (a:Option Addr) (len cap E:Nat) (v:Value) (es:List EM) (k:Nat):Prop where
 cur:Cur wx g B a len cap
 gr:w.grownBy wx (some g)
 own:wx.ownsRow w.heap.size 33 5 v k (ecs es)
 ln:es.length=k
 pl:∀ e ∈ es,EPl e
 box:∃ X,WCells wx E (qah X)/\EPl X
 hE:w.heap.size<=E
 ne:v.ownBlock ≠ some E
 hg:g<w.heap.size
theorem ES.turn {w wx wy:World} {g B:Nat} {a:Option Addr} {len cap E:Nat} {v:Value} {es:List EM} {k:Nat} (h:ES w wx g B a len cap E v es k) (hc:Cur wy g B a len cap) (hg:wx.grownBy wy (some g)):ES w wy g B a len cap E v es k:=by
 obtain ⟨X,hX,hp⟩:=h.box
 refine ⟨hc,qrn h.gr hg,h.own.kept hg ?_,h.ln,h.pl,⟨X,hX.apart hg (by have:=h.hE;have:=h.hg;omega),hp⟩,h.hE,h.ne,h.hg⟩
 cases e:v.ownBlock with
 | none=>exact .inl rfl
 | some q=>exact .inr fun e2=>by cases e2;have:=(h.own.lt _ e).1;have:=h.hg;omega
theorem ES.set {w wx:World} {g B:Nat} {a:Option Addr} {len cap E:Nat} {v:Value} {es:List EM} {k:Nat} (h:ES w wx g B a len cap E v es k) (Z:EM) (hZ:EPl Z):ES w (put5 wx E Z) g B a len cap E v es k:=by
 obtain ⟨X,hX,hp⟩:=h.box
 have hEg:E ≠ g:=by have:=h.hE;have:=h.hg;omega
 have hBE:B<=E:=by have:=h.hE;have:=h.hg;have:=h.cur.1;omega
 have hk:∀ (W:World) (i:Nat) (x:Value),W.ownsRow w.heap.size 33 5 v k (ecs es)->(W.setCell ⟨E,i,none⟩ x).ownsRow w.heap.size 33 5 v k (ecs es):=fun W i x ho=>ho.kept (qak W E i x) (.inr h.ne)
 refine ⟨((((h.cur.other ⟨E,0,none⟩ _ hEg hBE).other ⟨E,1,none⟩ _ hEg hBE).other ⟨E,2,none⟩ _ hEg hBE).other ⟨E,3,none⟩ _ hEg hBE).other ⟨E,4,none⟩ _ hEg hBE,qcb (qcb (qcb (qcb (qcb h.gr ⟨E,0,none⟩ _ h.hE) ⟨E,1,none⟩ _ h.hE) ⟨E,2,none⟩ _ h.hE) ⟨E,3,none⟩ _ h.hE) ⟨E,4,none⟩ _ h.hE,hk _ _ _ (hk _ _ _ (hk _ _ _ (hk _ _ _ (hk _ _ _ h.own)))),h.ln,h.pl,⟨Z,?_,hZ⟩,h.hE,h.ne,h.hg⟩
 exact ((((hX.set 0 (.int .i64 Z.kind) (by simp [qah])).set 1 (.string Z.path) (by simp [qah])).set 2 (.string Z.dest) (by simp [qah])).set 3 (.int .i64 Z.num) (by simp [qah])).set 4 (.int .i64 Z.who) (by simp [qah])
theorem ES.below {w wx wy:World} {g B:Nat} {a:Option Addr} {len cap E:Nat} {v:Value} {es:List EM} {k:Nat} (h:ES w wx g B a len cap E v es k) (hb:Below wx.heap.size wx wy):ES w wy g B a len cap E v es k:=h.turn (h.cur.below hb) (qpz hb)
theorem ES.room {w wx:World} {g B:Nat} {a:Option Addr} {len cap E:Nat} {v:Value} {es:List EM} {k:Nat} (h:ES w wx g B a len cap E v es k):∃ X:EM,(wx.cell? ⟨E,0,none⟩=some (.int .i64 X.kind)/\wx.frozen? ⟨E,0,none⟩=false)/\(wx.cell? ⟨E,1,none⟩=some (.string X.path)/\wx.frozen? ⟨E,1,none⟩=false)/\(wx.cell? ⟨E,2,none⟩=some (.string X.dest)/\wx.frozen? ⟨E,2,none⟩=false)/\(wx.cell? ⟨E,3,none⟩=some (.int .i64 X.num)/\wx.frozen? ⟨E,3,none⟩=false)/\(wx.cell? ⟨E,4,none⟩=some (.int .i64 X.who)/\wx.frozen? ⟨E,4,none⟩=false)/\EPl X:=by
 obtain ⟨X,hX,hp⟩:=h.box
 exact ⟨X,hX.2 0 _ rfl,hX.2 1 _ rfl,hX.2 2 _ rfl,hX.2 3 _ rfl,hX.2 4 _ rfl,hp⟩
theorem ES.last {w wx:World} {g B:Nat} {a:Option Addr} {len cap E gv cv:Nat} {es:List EM} {k:Nat} {X:EM} (h:ES w wx g B a len cap E (.slice (some ⟨gv,0,none⟩) k cv) es k) (h0:0<k) (hX:es[k - 1]?=some X):wx.cell? ⟨gv,(k - 1)*5,none⟩=some (.int .i64 X.kind)/\wx.cell? ⟨gv,(k - 1)*5+1,none⟩=some (.string X.path)/\(X.path.size<=16/\noZ X.path=true):=by
 have hl:=h.ln
 have hk:k - 1<es.length:=by omega
 have hXe:es[k - 1]=X:=by rw [List.getElem?_eq_getElem hk] at hX;exact Option.some.inj hX
 subst hXe
 have hw:=qar h.own
 have hg:∀ f v,(qah es[k - 1])[f]?=some v->wx.cell? ⟨gv,(k - 1)*5+f,none⟩=some v:=fun f v hv=>by
  have hf:f<5:=by have:=(List.getElem?_eq_some_iff.1 hv).1;rw [qbv] at this;exact this
  exact (hw.2 _ _ ((flat_get qbv es (k - 1) hk f hf).trans hv)).1
 exact ⟨hg 0 _ rfl,hg 1 _ rfl,(h.pl _ (List.getElem_mem hk)).1⟩
theorem Cur.grow {w w':World} {g B len cap:Nat} {a:Option Addr} (h:Cur w g B a len cap) {row:Option Nat} (hg:w.grownBy w' row) (hr:∀ q,row=some q->q ≠ g/\B<=q):Cur w' g B a len cap:=by
 obtain ⟨h1,h2,h3,h4,⟨i,h5,h5'⟩,⟨k,h6⟩,h7⟩:=h
 have hb:w'.heap[g]?=w.heap[g]?:=hg.block g h2 fun e=>(hr g e.symm).1 rfl
 refine ⟨h1,Nat.lt_of_lt_of_le h2 hg.size,⟨h3.1,fun hp'=>?_⟩,(World.cell?_of_block (a:=⟨g,0,none⟩) hb).trans h4,⟨i,(World.cell?_of_block (a:=⟨g,1,none⟩) hb).trans h5,h5'⟩,⟨k,(World.cell?_of_block (a:=⟨g,2,none⟩) hb).trans h6⟩,fun j hj=>(World.frozen?_of_block (a:=⟨g,j,none⟩) hb).trans (h7 j hj)⟩
 obtain ⟨b,off,e,hbB,hx⟩:=h3.2 hp'
 have hbb:w'.heap[b]?=w.heap[b]?:=hg.block b (by omega) fun e=>by have:=(hr b e.symm).2;omega
 exact ⟨b,off,e,hbB,fun j hj=>(hx j hj).imp fun x hx=>⟨(World.cell?_of_block (a:=⟨b,off+j,none⟩) hbb).trans hx.1,hx.2⟩⟩
theorem gb_more {w0 w w':World} {g:Nat} {row:Option Nat} (h:w0.grownBy w (some g)) (k:w.grownBy w' row) (hr:∀ q,row=some q->w0.heap.size<=q):w0.grownBy w' (some g):=
 ⟨k.os.trans h.os,k.tape.trans h.tape,k.output.trans h.output,Nat.le_trans h.size k.size,fun i hi hn=>(k.block i (Nat.lt_of_lt_of_le hi h.size) (fun e=>by have:=hr i e.symm;omega)).trans (h.block i hi hn)⟩
theorem ES.more {w wx wa w10:World} {g B:Nat} {a:Option Addr} {len cap E:Nat} {v v':Value} {es:List EM} {k:Nat} {X:EM} (h:ES w wx g B a len cap E v es k) (hp:EPl X) (ha:Below wx.heap.size wx wa) (hg:wa.grownBy w10 v.ownBlock) (ho:w10.ownsRow w.heap.size 33 5 v' (k+1) (ecs es++qah X)) :
  (es++[X]).length=k+1/\(∀ x ∈ es++[X],EPl x)/\w10.ownsRow w.heap.size 33 5 v' (k+1) (ecs (es++[X]))/\Cur w10 g B a len cap/\w.grownBy w10 (some g):=by
 have hlt:∀ q,v.ownBlock=some q->w.heap.size<=q:=fun q e=>(h.own.lt q e).1
 refine ⟨by rw [List.length_append,h.ln];rfl,?_,?_,(h.cur.below ha).grow hg fun q e=>?_,gb_more (qrn h.gr (qpz ha)) hg hlt⟩
 ·intro x hx
  rcases List.mem_append.1 hx with hx | hx
  ·exact h.pl x hx
  ·rw [List.mem_singleton.1 hx];exact hp
 ·have e:ecs (es++[X])=ecs es++qah X:=by simp [ecs]
  rw [e];exact ho
 ·have:=hlt q e;have:=h.hg;have:=h.cur.1
  exact ⟨by omega,by omega⟩
theorem qfm {w:World} {B n sz:Nat} {t:TypeId} {a:Option Addr} {cap:Nat} {L:List Value} (h:w.ownsRow B t sz (.slice a n cap) n L) (hn:0<L.length->n ≠ 0):RRow w a L 0 w.heap.size:=by
 intro hp
 obtain ⟨g,c,cur,e,_,hl,_⟩:=qei h (hn hp)
 simp only [Value.slice.injEq] at e
 obtain ⟨rfl,-,rfl⟩:=e
 exact RRow.of_crow (qar h).crow hp
theorem qip:NFit newX:=by unfold NFit;decide
attribute [local irreducible] newX
end Go.Proofs.YtoglebfiobofoaaGreatDoor
/- StR: . -/
namespace Go.Proofs.YtoglebfiobofoaaGreatDoor
set_option maxRecDepth 100000
set_option maxHeartbeats 16000000
open Go.RowKit
attribute [local go_sem ↓] Go.wp_at_zero Go.wp_at_succ
variable {L:List (Nat × List Value)} {gs rs:List NR} {r:NR} {B c cap g hi k lo n:Nat} {a va:Option Addr} {W W' w w0:World}
def recV (e:EM):Value:=
 if e.kind=1 then .iface 221 (.agg #[.string e.path,.string (qab e.path).1,.string (qab e.path).2.1])
 else if e.kind=2 then .iface 223 (.agg #[.string e.path,.string (qab e.path).1,.string (qab e.path).2.1,.int .i64 e.who])
 else if e.kind=3 then .iface 225 (.agg #[.string e.path,.string e.dest,.string (qab e.dest).1,.string (qab e.dest).2.1])
 else if e.kind=4 then .iface 227 (.agg #[.string e.path])
 else if e.kind=5 then .iface 229 (.agg #[.string e.path,.int .i64 e.num])
 else if e.kind=6 then .iface 231 (.agg #[.string e.path,.int .i64 e.num])
 else if e.kind=7 then .iface 233 (.agg #[.string e.path,.int .i64 e.num])
 else if e.kind=8 then .iface 234 (.agg #[.string e.path])
 else if e.kind=9 then .iface 236 (.agg #[.string e.path,.int .i64 e.who])
 else .iface 237 (.agg #[.string e.path])
theorem qgg (p:ByteArray) (w:World) (hp:p.size<=1048576):Calls Tryz.prog 156 #[.string p] w fun e w'=>e = .returned (.agg #[.string p,.string (qab p).1,.string (qab p).2.1])/\Below w.heap.size w w':=by
 have HP:=Sh.mk (fun W=>qfz p W hp)
 unfold qel at HP
 generalize (qab p).1=up at HP ⊢
 generalize (qab p).2.1=nm at HP ⊢
 generalize (qab p).2.2=ok at HP
 go_enter Tryz.func156,Tryz.ntmps156
 go_upto_region 1 with fail
 obtain ⟨gb,hgb⟩:∃ gb,gb=w.heap.size:=⟨_,rfl⟩
 refine qaa (fun W=>MB w W [(gb,[.string ⟨#[]⟩,.string ⟨#[]⟩,.string ⟨#[]⟩])]) (by rw [hgb];exact (MB.nil w).new #[.string ⟨#[]⟩,.string ⟨#[]⟩,.string ⟨#[]⟩] 218) ?_
 intro W1 hW1
 have HM:=Sh.mk hW1
 rw [<-hgb]
 clear hW1 hgb hp
 go_upto_region 2 with (go_at_call 171;refine (HP.1 _).mono ?_;rintro e w1 ⟨rfl,hb⟩;replace HM:=Sh.mk (HM.1.below hb);clear hb)
 obtain ⟨f0,g0⟩:=(HM.1.at 0 rfl).1.2 0 _ rfl
 obtain ⟨f1,g1⟩:=(HM.1.at 0 rfl).1.2 1 _ rfl
 obtain ⟨f2,g2⟩:=(HM.1.at 0 rfl).1.2 2 _ rfl
 go_wp2_with fail
 refine qac (fun W=>MB w W [(gb,[.string p,.string up,.string nm])]) (((HM.1.put 0 rfl 0 (.string p) (by simp)).put 0 rfl 1 (.string up) (by simp)).put 0 rfl 2 (.string nm) (by simp)) ?_
 intro W9 hM
 have z0:=((hM.at 0 rfl).1.2 0 _ rfl).1
 have z1:=((hM.at 0 rfl).1.2 1 _ rfl).1
 have z2:=((hM.at 0 rfl).1.2 2 _ rfl).1
 exact bodyPost_ret (v:=.agg #[.string p,.string up,.string nm]) (by simp [results,Tryz.results156,go_sem,z0,z1,z2]) rfl ⟨rfl,hM.bel⟩
theorem recordOf1 (path dest:ByteArray) (num who:Int) (w:World) (hp:path.size<=1048576):Calls Tryz.prog 120 #[.agg #[.int .i64 1,.string path,.string dest,.int .i64 num,.int .i64 who]] w fun r w'=>r = .returned (.iface 221 (.agg #[.string path,.string (qab path).1,.string (qab path).2.1]))/\Below w.heap.size w w':=by
 have HP:=Sh.mk (fun W=>qgg path W hp)
 generalize (qab path).1=up at HP ⊢
 generalize (qab path).2.1=nm at HP ⊢
 clear hp
 go_enter Tryz.func120,Tryz.ntmps120
 go_upto_region 1 with fail
 obtain ⟨eb,heb⟩:∃ eb,eb=w.heap.size:=⟨_,rfl⟩
 refine qaa (fun W=>MB w W [(eb,[.int .i64 1,.string path,.string dest,.int .i64 num,.int .i64 who])]) (by rw [heb];exact (MB.nil w).new #[.int .i64 1,.string path,.string dest,.int .i64 num,.int .i64 who] 33) ?_
 intro W1 hW1
 have HM:=Sh.mk hW1
 have x1:=((HM.1.at 0 rfl).1.2 1 _ rfl).1
 rw [<-heb]
 clear hW1 heb
 go_upto_region 2 with fail
 obtain ⟨nb,hnb⟩:∃ nb,nb=W1.heap.size:=⟨_,rfl⟩
 refine qaa (fun W=>MB w W [(nb,[.string path]),(eb,[.int .i64 1,.string path,.string dest,.int .i64 num,.int .i64 who])]) (by rw [hnb];exact HM.1.new #[.string path] 216) ?_
 intro W2 hW2
 clear x1 HM
 have HM:=Sh.mk hW2
 have x0:=((HM.1.at 1 rfl).1.2 0 _ rfl).1
 have x1:=((HM.1.at 1 rfl).1.2 1 _ rfl).1
 have x2:=((HM.1.at 1 rfl).1.2 2 _ rfl).1
 have x3:=((HM.1.at 1 rfl).1.2 3 _ rfl).1
 have x4:=((HM.1.at 1 rfl).1.2 4 _ rfl).1
 have y0:=((HM.1.at 0 rfl).1.2 0 _ rfl).1
 rw [<-hnb]
 clear hW2 hnb
 go_wp2_with (go_at_call 156;refine (HP.1 _).mono ?_;rintro e w1 ⟨rfl,hb⟩;replace HM:=Sh.mk (HM.1.below hb);clear hb x0 x1 x2 x3 x4 y0)
 go_ret
 exact ⟨rfl,HM.1.bel⟩
theorem recordOf2 (path dest:ByteArray) (num who:Int) (w:World) (hp:path.size<=1048576):Calls Tryz.prog 120 #[.agg #[.int .i64 2,.string path,.string dest,.int .i64 num,.int .i64 who]] w fun r w'=>r = .returned (.iface 223 (.agg #[.string path,.string (qab path).1,.string (qab path).2.1,.int .i64 who]))/\Below w.heap.size w w':=by
 have HP:=Sh.mk (fun W=>qgg path W hp)
 generalize (qab path).1=up at HP ⊢
 generalize (qab path).2.1=nm at HP ⊢
 clear hp
 go_enter Tryz.func120,Tryz.ntmps120
 go_upto_region 1 with fail
 obtain ⟨eb,heb⟩:∃ eb,eb=w.heap.size:=⟨_,rfl⟩
 refine qaa (fun W=>MB w W [(eb,[.int .i64 2,.string path,.string dest,.int .i64 num,.int .i64 who])]) (by rw [heb];exact (MB.nil w).new #[.int .i64 2,.string path,.string dest,.int .i64 num,.int .i64 who] 33) ?_
 intro W1 hW1
 have HM:=Sh.mk hW1
 have x1:=((HM.1.at 0 rfl).1.2 1 _ rfl).1
 rw [<-heb]
 clear hW1 heb
 go_upto_region 2 with fail
 obtain ⟨nb,hnb⟩:∃ nb,nb=W1.heap.size:=⟨_,rfl⟩
 refine qaa (fun W=>MB w W [(nb,[.string path]),(eb,[.int .i64 2,.string path,.string dest,.int .i64 num,.int .i64 who])]) (by rw [hnb];exact HM.1.new #[.string path] 216) ?_
 intro W2 hW2
 clear x1 HM
 have HM:=Sh.mk hW2
 have x0:=((HM.1.at 1 rfl).1.2 0 _ rfl).1
 have x1:=((HM.1.at 1 rfl).1.2 1 _ rfl).1
 have x2:=((HM.1.at 1 rfl).1.2 2 _ rfl).1
 have x3:=((HM.1.at 1 rfl).1.2 3 _ rfl).1
 have x4:=((HM.1.at 1 rfl).1.2 4 _ rfl).1
 have y0:=((HM.1.at 0 rfl).1.2 0 _ rfl).1
 rw [<-hnb]
 clear hW2 hnb
 go_upto_region 6 with fail
 have HLE:Sh (∀ x,Later W2.drew x->x.cell? ⟨eb,1,none⟩=some (.string path)/\x.cell? ⟨eb,2,none⟩=some (.string dest)/\x.cell? ⟨eb,4,none⟩=some (.int .i64 who)/\x.cell? ⟨nb,0,none⟩=some (.string path)):=⟨fun x hx=>by
  have M:=HM.1.below (Below.trans (Below.drew (Below.refl _ _)) hx)
  exact ⟨((M.at 1 rfl).1.2 1 _ rfl).1,((M.at 1 rfl).1.2 2 _ rfl).1,((M.at 1 rfl).1.2 4 _ rfl).1,((M.at 0 rfl).1.2 0 _ rfl).1⟩⟩
 refine qag (by kernel_rfl) ?_
 refine wpL_v 0 rfl (fun x hx=>by obtain ⟨d0,d1,d2,d3⟩:=HLE.1 x hx;go_simp;try with_reducible rfl) ?_
 try simp only [Act.put,qA,qB,qC]
 refine wpL_v 1 rfl (fun x hx=>by obtain ⟨d0,d1,d2,d3⟩:=HLE.1 x hx;go_simp;try with_reducible rfl) ?_
 try simp only [Act.put,qA,qB,qC]
 refine qaz (i:=2) (v:=.agg #[.string path,.string up,.string nm]) (f:=156) (args:=#[.string path]) rfl (by kernel_rfl) (by kernel_rfl) (by kernel_rfl) (fun _ _ _ h=>h) (by rfl) ?hya2 (fun x _=>HP.1 x) ?resta2
 case hya2=>(intro x hx;obtain ⟨d0,d1,d2,d3⟩:=HLE.1 x hx;go_simp;try with_reducible rfl)
 try simp only [Act.put,qA,qB,qC]
 refine wpL_v 3 rfl (fun x hx=>by obtain ⟨d0,d1,d2,d3⟩:=HLE.1 x hx;go_simp;try with_reducible rfl) ?_
 try simp only [Act.put,qA,qB,qC]
 refine wpL_v 4 rfl (fun x hx=>by obtain ⟨d0,d1,d2,d3⟩:=HLE.1 x hx;go_simp;try with_reducible rfl) ?_
 try simp only [Act.put,qA,qB,qC]
 refine wpL_v 5 rfl (fun x hx=>by obtain ⟨d0,d1,d2,d3⟩:=HLE.1 x hx;go_simp;try with_reducible rfl) ?_
 try simp only [Act.put,qA,qB,qC]
 refine wpL_v 6 rfl (fun x hx=>by obtain ⟨d0,d1,d2,d3⟩:=HLE.1 x hx;go_simp;try with_reducible rfl) ?_
 try simp only [Act.put,qA,qB,qC]
 refine wpL_v 7 rfl (fun x hx=>by obtain ⟨d0,d1,d2,d3⟩:=HLE.1 x hx;go_simp;try with_reducible rfl) ?_
 try simp only [Act.put,qA,qB,qC]
 refine qbg (by kernel_rfl) ?_ _
 intro w5 hy
 replace HM:=Sh.mk (HM.1.below (Below.trans (Below.drew (Below.refl _ _)) hy))
 clear hy HLE x0 x1 x2 x3 x4 y0
 go_wp2_with fail
 go_ret
 exact ⟨rfl,HM.1.bel⟩
theorem recordOf3 (path dest:ByteArray) (num who:Int) (w:World) (hd:dest.size<=1048576):Calls Tryz.prog 120 #[.agg #[.int .i64 3,.string path,.string dest,.int .i64 num,.int .i64 who]] w fun r w'=>r = .returned (.iface 225 (.agg #[.string path,.string dest,.string (qab dest).1,.string (qab dest).2.1]))/\Below w.heap.size w w':=by
 have HP:=Sh.mk (fun W=>qgg dest W hd)
 generalize (qab dest).1=up at HP ⊢
 generalize (qab dest).2.1=nm at HP ⊢
 clear hd
 go_enter Tryz.func120,Tryz.ntmps120
 go_upto_region 1 with fail
 obtain ⟨eb,heb⟩:∃ eb,eb=w.heap.size:=⟨_,rfl⟩
 refine qaa (fun W=>MB w W [(eb,[.int .i64 3,.string path,.string dest,.int .i64 num,.int .i64 who])]) (by rw [heb];exact (MB.nil w).new #[.int .i64 3,.string path,.string dest,.int .i64 num,.int .i64 who] 33) ?_
 intro W1 hW1
 have HM:=Sh.mk hW1
 have x1:=((HM.1.at 0 rfl).1.2 1 _ rfl).1
 rw [<-heb]
 clear hW1 heb
 go_upto_region 2 with fail
 obtain ⟨nb,hnb⟩:∃ nb,nb=W1.heap.size:=⟨_,rfl⟩
 refine qaa (fun W=>MB w W [(nb,[.string path]),(eb,[.int .i64 3,.string path,.string dest,.int .i64 num,.int .i64 who])]) (by rw [hnb];exact HM.1.new #[.string path] 216) ?_
 intro W2 hW2
 clear x1 HM
 have HM:=Sh.mk hW2
 have x0:=((HM.1.at 1 rfl).1.2 0 _ rfl).1
 have x1:=((HM.1.at 1 rfl).1.2 1 _ rfl).1
 have x2:=((HM.1.at 1 rfl).1.2 2 _ rfl).1
 have x3:=((HM.1.at 1 rfl).1.2 3 _ rfl).1
 have x4:=((HM.1.at 1 rfl).1.2 4 _ rfl).1
 have y0:=((HM.1.at 0 rfl).1.2 0 _ rfl).1
 rw [<-hnb]
 clear hW2 hnb
 go_upto_region 8 with fail
 have HLE:Sh (∀ x,Later W2.drew x->x.cell? ⟨eb,1,none⟩=some (.string path)/\x.cell? ⟨eb,2,none⟩=some (.string dest)/\x.cell? ⟨eb,4,none⟩=some (.int .i64 who)/\x.cell? ⟨nb,0,none⟩=some (.string path)):=⟨fun x hx=>by
  have M:=HM.1.below (Below.trans (Below.drew (Below.refl _ _)) hx)
  exact ⟨((M.at 1 rfl).1.2 1 _ rfl).1,((M.at 1 rfl).1.2 2 _ rfl).1,((M.at 1 rfl).1.2 4 _ rfl).1,((M.at 0 rfl).1.2 0 _ rfl).1⟩⟩
 refine qag (by kernel_rfl) ?_
 refine wpL_v 0 rfl (fun x hx=>by obtain ⟨d0,d1,d2,d3⟩:=HLE.1 x hx;go_simp;try with_reducible rfl) ?_
 try simp only [Act.put,qA,qB,qC]
 refine wpL_v 1 rfl (fun x hx=>by obtain ⟨d0,d1,d2,d3⟩:=HLE.1 x hx;go_simp;try with_reducible rfl) ?_
 try simp only [Act.put,qA,qB,qC]
 refine wpL_v 2 rfl (fun x hx=>by obtain ⟨d0,d1,d2,d3⟩:=HLE.1 x hx;go_simp;try with_reducible rfl) ?_
 try simp only [Act.put,qA,qB,qC]
 refine qaz (i:=3) (v:=.agg #[.string dest,.string up,.string nm]) (f:=156) (args:=#[.string dest]) rfl (by kernel_rfl) (by kernel_rfl) (by kernel_rfl) (fun _ _ _ h=>h) (by rfl) ?hya3 (fun x _=>HP.1 x) ?resta3
 case hya3=>(intro x hx;obtain ⟨d0,d1,d2,d3⟩:=HLE.1 x hx;go_simp;try with_reducible rfl)
 try simp only [Act.put,qA,qB,qC]
 refine wpL_v 4 rfl (fun x hx=>by obtain ⟨d0,d1,d2,d3⟩:=HLE.1 x hx;go_simp;try with_reducible rfl) ?_
 try simp only [Act.put,qA,qB,qC]
 refine wpL_v 5 rfl (fun x hx=>by obtain ⟨d0,d1,d2,d3⟩:=HLE.1 x hx;go_simp;try with_reducible rfl) ?_
 try simp only [Act.put,qA,qB,qC]
 refine wpL_v 6 rfl (fun x hx=>by obtain ⟨d0,d1,d2,d3⟩:=HLE.1 x hx;go_simp;try with_reducible rfl) ?_
 try simp only [Act.put,qA,qB,qC]
 refine qbg (by kernel_rfl) ?_ _
 intro w5 hy
 replace HM:=Sh.mk (HM.1.below (Below.trans (Below.drew (Below.refl _ _)) hy))
 clear hy HLE x0 x1 x2 x3 x4 y0
 go_wp2_with fail
 go_ret
 exact ⟨rfl,HM.1.bel⟩
theorem recordOf4 (path dest:ByteArray) (num who:Int) (w:World):Calls Tryz.prog 120 #[.agg #[.int .i64 4,.string path,.string dest,.int .i64 num,.int .i64 who]] w fun r w'=>r = .returned (.iface 227 (.agg #[.string path]))/\Below w.heap.size w w':=by
 go_enter Tryz.func120,Tryz.ntmps120
 go_upto_region 1 with fail
 obtain ⟨eb,heb⟩:∃ eb,eb=w.heap.size:=⟨_,rfl⟩
 refine qaa (fun W=>MB w W [(eb,[.int .i64 4,.string path,.string dest,.int .i64 num,.int .i64 who])]) (by rw [heb];exact (MB.nil w).new #[.int .i64 4,.string path,.string dest,.int .i64 num,.int .i64 who] 33) ?_
 intro W1 hW1
 have HM:=Sh.mk hW1
 have x1:=((HM.1.at 0 rfl).1.2 1 _ rfl).1
 rw [<-heb]
 clear hW1 heb
 go_upto_region 2 with fail
 obtain ⟨nb,hnb⟩:∃ nb,nb=W1.heap.size:=⟨_,rfl⟩
 refine qaa (fun W=>MB w W [(nb,[.string path]),(eb,[.int .i64 4,.string path,.string dest,.int .i64 num,.int .i64 who])]) (by rw [hnb];exact HM.1.new #[.string path] 216) ?_
 intro W2 hW2
 clear x1 HM
 have HM:=Sh.mk hW2
 have x0:=((HM.1.at 1 rfl).1.2 0 _ rfl).1
 have x1:=((HM.1.at 1 rfl).1.2 1 _ rfl).1
 have x2:=((HM.1.at 1 rfl).1.2 2 _ rfl).1
 have x3:=((HM.1.at 1 rfl).1.2 3 _ rfl).1
 have x4:=((HM.1.at 1 rfl).1.2 4 _ rfl).1
 have y0:=((HM.1.at 0 rfl).1.2 0 _ rfl).1
 rw [<-hnb]
 clear hW2 hnb
 go_wp2_with fail
 go_ret
 exact ⟨rfl,HM.1.bel⟩
theorem recordOf5 (path dest:ByteArray) (num who:Int) (w:World):Calls Tryz.prog 120 #[.agg #[.int .i64 5,.string path,.string dest,.int .i64 num,.int .i64 who]] w fun r w'=>r = .returned (.iface 229 (.agg #[.string path,.int .i64 num]))/\Below w.heap.size w w':=by
 go_enter Tryz.func120,Tryz.ntmps120
 go_upto_region 1 with fail
 obtain ⟨eb,heb⟩:∃ eb,eb=w.heap.size:=⟨_,rfl⟩
 refine qaa (fun W=>MB w W [(eb,[.int .i64 5,.string path,.string dest,.int .i64 num,.int .i64 who])]) (by rw [heb];exact (MB.nil w).new #[.int .i64 5,.string path,.string dest,.int .i64 num,.int .i64 who] 33) ?_
 intro W1 hW1
 have HM:=Sh.mk hW1
 have x1:=((HM.1.at 0 rfl).1.2 1 _ rfl).1
 rw [<-heb]
 clear hW1 heb
 go_upto_region 2 with fail
 obtain ⟨nb,hnb⟩:∃ nb,nb=W1.heap.size:=⟨_,rfl⟩
 refine qaa (fun W=>MB w W [(nb,[.string path]),(eb,[.int .i64 5,.string path,.string dest,.int .i64 num,.int .i64 who])]) (by rw [hnb];exact HM.1.new #[.string path] 216) ?_
 intro W2 hW2
 clear x1 HM
 have HM:=Sh.mk hW2
 have x0:=((HM.1.at 1 rfl).1.2 0 _ rfl).1
 have x1:=((HM.1.at 1 rfl).1.2 1 _ rfl).1
 have x2:=((HM.1.at 1 rfl).1.2 2 _ rfl).1
 have x3:=((HM.1.at 1 rfl).1.2 3 _ rfl).1
 have x4:=((HM.1.at 1 rfl).1.2 4 _ rfl).1
 have y0:=((HM.1.at 0 rfl).1.2 0 _ rfl).1
 rw [<-hnb]
 clear hW2 hnb
 go_wp2_with fail
 go_ret
 exact ⟨rfl,HM.1.bel⟩
theorem recordOf6 (path dest:ByteArray) (num who:Int) (w:World):Calls Tryz.prog 120 #[.agg #[.int .i64 6,.string path,.string dest,.int .i64 num,.int .i64 who]] w fun r w'=>r = .returned (.iface 231 (.agg #[.string path,.int .i64 num]))/\Below w.heap.size w w':=by
 go_enter Tryz.func120,Tryz.ntmps120
 go_upto_region 1 with fail
 obtain ⟨eb,heb⟩:∃ eb,eb=w.heap.size:=⟨_,rfl⟩
 refine qaa (fun W=>MB w W [(eb,[.int .i64 6,.string path,.string dest,.int .i64 num,.int .i64 who])]) (by rw [heb];exact (MB.nil w).new #[.int .i64 6,.string path,.string dest,.int .i64 num,.int .i64 who] 33) ?_
 intro W1 hW1
 have HM:=Sh.mk hW1
 have x1:=((HM.1.at 0 rfl).1.2 1 _ rfl).1
 rw [<-heb]
 clear hW1 heb
 go_upto_region 2 with fail
 obtain ⟨nb,hnb⟩:∃ nb,nb=W1.heap.size:=⟨_,rfl⟩
 refine qaa (fun W=>MB w W [(nb,[.string path]),(eb,[.int .i64 6,.string path,.string dest,.int .i64 num,.int .i64 who])]) (by rw [hnb];exact HM.1.new #[.string path] 216) ?_
 intro W2 hW2
 clear x1 HM
 have HM:=Sh.mk hW2
 have x0:=((HM.1.at 1 rfl).1.2 0 _ rfl).1
 have x1:=((HM.1.at 1 rfl).1.2 1 _ rfl).1
 have x2:=((HM.1.at 1 rfl).1.2 2 _ rfl).1
 have x3:=((HM.1.at 1 rfl).1.2 3 _ rfl).1
 have x4:=((HM.1.at 1 rfl).1.2 4 _ rfl).1
 have y0:=((HM.1.at 0 rfl).1.2 0 _ rfl).1
 rw [<-hnb]
 clear hW2 hnb
 go_wp2_with fail
 go_ret
 exact ⟨rfl,HM.1.bel⟩
theorem recordOf7 (path dest:ByteArray) (num who:Int) (w:World):Calls Tryz.prog 120 #[.agg #[.int .i64 7,.string path,.string dest,.int .i64 num,.int .i64 who]] w fun r w'=>r = .returned (.iface 233 (.agg #[.string path,.int .i64 num]))/\Below w.heap.size w w':=by
 go_enter Tryz.func120,Tryz.ntmps120
 go_upto_region 1 with fail
 obtain ⟨eb,heb⟩:∃ eb,eb=w.heap.size:=⟨_,rfl⟩
 refine qaa (fun W=>MB w W [(eb,[.int .i64 7,.string path,.string dest,.int .i64 num,.int .i64 who])]) (by rw [heb];exact (MB.nil w).new #[.int .i64 7,.string path,.string dest,.int .i64 num,.int .i64 who] 33) ?_
 intro W1 hW1
 have HM:=Sh.mk hW1
 have x1:=((HM.1.at 0 rfl).1.2 1 _ rfl).1
 rw [<-heb]
 clear hW1 heb
 go_upto_region 2 with fail
 obtain ⟨nb,hnb⟩:∃ nb,nb=W1.heap.size:=⟨_,rfl⟩
 refine qaa (fun W=>MB w W [(nb,[.string path]),(eb,[.int .i64 7,.string path,.string dest,.int .i64 num,.int .i64 who])]) (by rw [hnb];exact HM.1.new #[.string path] 216) ?_
 intro W2 hW2
 clear x1 HM
 have HM:=Sh.mk hW2
 have x0:=((HM.1.at 1 rfl).1.2 0 _ rfl).1
 have x1:=((HM.1.at 1 rfl).1.2 1 _ rfl).1
 have x2:=((HM.1.at 1 rfl).1.2 2 _ rfl).1
 have x3:=((HM.1.at 1 rfl).1.2 3 _ rfl).1
 have x4:=((HM.1.at 1 rfl).1.2 4 _ rfl).1
 have y0:=((HM.1.at 0 rfl).1.2 0 _ rfl).1
 rw [<-hnb]
 clear hW2 hnb
 go_wp2_with fail
 go_ret
 exact ⟨rfl,HM.1.bel⟩
theorem recordOf8 (path dest:ByteArray) (num who:Int) (w:World):Calls Tryz.prog 120 #[.agg #[.int .i64 8,.string path,.string dest,.int .i64 num,.int .i64 who]] w fun r w'=>r = .returned (.iface 234 (.agg #[.string path]))/\Below w.heap.size w w':=by
 go_enter Tryz.func120,Tryz.ntmps120
 go_upto_region 1 with fail
 obtain ⟨eb,heb⟩:∃ eb,eb=w.heap.size:=⟨_,rfl⟩
 refine qaa (fun W=>MB w W [(eb,[.int .i64 8,.string path,.string dest,.int .i64 num,.int .i64 who])]) (by rw [heb];exact (MB.nil w).new #[.int .i64 8,.string path,.string dest,.int .i64 num,.int .i64 who] 33) ?_
 intro W1 hW1
 have HM:=Sh.mk hW1
 have x1:=((HM.1.at 0 rfl).1.2 1 _ rfl).1
 rw [<-heb]
 clear hW1 heb
 go_upto_region 2 with fail
 obtain ⟨nb,hnb⟩:∃ nb,nb=W1.heap.size:=⟨_,rfl⟩
 refine qaa (fun W=>MB w W [(nb,[.string path]),(eb,[.int .i64 8,.string path,.string dest,.int .i64 num,.int .i64 who])]) (by rw [hnb];exact HM.1.new #[.string path] 216) ?_
 intro W2 hW2
 clear x1 HM
 have HM:=Sh.mk hW2
 have x0:=((HM.1.at 1 rfl).1.2 0 _ rfl).1
 have x1:=((HM.1.at 1 rfl).1.2 1 _ rfl).1
 have x2:=((HM.1.at 1 rfl).1.2 2 _ rfl).1
 have x3:=((HM.1.at 1 rfl).1.2 3 _ rfl).1
 have x4:=((HM.1.at 1 rfl).1.2 4 _ rfl).1
 have y0:=((HM.1.at 0 rfl).1.2 0 _ rfl).1
 rw [<-hnb]
 clear hW2 hnb
 go_wp2_with fail
 go_ret
 exact ⟨rfl,HM.1.bel⟩
theorem recordOf9 (path dest:ByteArray) (num who:Int) (w:World):Calls Tryz.prog 120 #[.agg #[.int .i64 9,.string path,.string dest,.int .i64 num,.int .i64 who]] w fun r w'=>r = .returned (.iface 236 (.agg #[.string path,.int .i64 who]))/\Below w.heap.size w w':=by
 go_enter Tryz.func120,Tryz.ntmps120
 go_upto_region 1 with fail
 obtain ⟨eb,heb⟩:∃ eb,eb=w.heap.size:=⟨_,rfl⟩
 refine qaa (fun W=>MB w W [(eb,[.int .i64 9,.string path,.string dest,.int .i64 num,.int .i64 who])]) (by rw [heb];exact (MB.nil w).new #[.int .i64 9,.string path,.string dest,.int .i64 num,.int .i64 who] 33) ?_
 intro W1 hW1
 have HM:=Sh.mk hW1
 have x1:=((HM.1.at 0 rfl).1.2 1 _ rfl).1
 rw [<-heb]
 clear hW1 heb
 go_upto_region 2 with fail
 obtain ⟨nb,hnb⟩:∃ nb,nb=W1.heap.size:=⟨_,rfl⟩
 refine qaa (fun W=>MB w W [(nb,[.string path]),(eb,[.int .i64 9,.string path,.string dest,.int .i64 num,.int .i64 who])]) (by rw [hnb];exact HM.1.new #[.string path] 216) ?_
 intro W2 hW2
 clear x1 HM
 have HM:=Sh.mk hW2
 have x0:=((HM.1.at 1 rfl).1.2 0 _ rfl).1
 have x1:=((HM.1.at 1 rfl).1.2 1 _ rfl).1
 have x2:=((HM.1.at 1 rfl).1.2 2 _ rfl).1
 have x3:=((HM.1.at 1 rfl).1.2 3 _ rfl).1
 have x4:=((HM.1.at 1 rfl).1.2 4 _ rfl).1
 have y0:=((HM.1.at 0 rfl).1.2 0 _ rfl).1
 rw [<-hnb]
 clear hW2 hnb
 go_wp2_with fail
 go_ret
 exact ⟨rfl,HM.1.bel⟩
theorem recordOf10 (path dest:ByteArray) (num who:Int) (w:World):Calls Tryz.prog 120 #[.agg #[.int .i64 10,.string path,.string dest,.int .i64 num,.int .i64 who]] w fun r w'=>r = .returned (.iface 237 (.agg #[.string path]))/\Below w.heap.size w w':=by
 go_enter Tryz.func120,Tryz.ntmps120
 go_upto_region 1 with fail
 obtain ⟨eb,heb⟩:∃ eb,eb=w.heap.size:=⟨_,rfl⟩
 refine qaa (fun W=>MB w W [(eb,[.int .i64 10,.string path,.string dest,.int .i64 num,.int .i64 who])]) (by rw [heb];exact (MB.nil w).new #[.int .i64 10,.string path,.string dest,.int .i64 num,.int .i64 who] 33) ?_
 intro W1 hW1
 have HM:=Sh.mk hW1
 have x1:=((HM.1.at 0 rfl).1.2 1 _ rfl).1
 rw [<-heb]
 clear hW1 heb
 go_upto_region 2 with fail
 obtain ⟨nb,hnb⟩:∃ nb,nb=W1.heap.size:=⟨_,rfl⟩
 refine qaa (fun W=>MB w W [(nb,[.string path]),(eb,[.int .i64 10,.string path,.string dest,.int .i64 num,.int .i64 who])]) (by rw [hnb];exact HM.1.new #[.string path] 216) ?_
 intro W2 hW2
 clear x1 HM
 have HM:=Sh.mk hW2
 have x0:=((HM.1.at 1 rfl).1.2 0 _ rfl).1
 have x1:=((HM.1.at 1 rfl).1.2 1 _ rfl).1
 have x2:=((HM.1.at 1 rfl).1.2 2 _ rfl).1
 have x3:=((HM.1.at 1 rfl).1.2 3 _ rfl).1
 have x4:=((HM.1.at 1 rfl).1.2 4 _ rfl).1
 have y0:=((HM.1.at 0 rfl).1.2 0 _ rfl).1
 rw [<-hnb]
 clear hW2 hnb
 go_wp2_with fail
 go_ret
 exact ⟨rfl,HM.1.bel⟩
theorem recordOf_any (e:EM) (w:World) (hk:1<=e.kind/\e.kind<=10) (he:EFit e):Calls Tryz.prog 120 #[ev e] w fun r w'=>r = .returned (recV e)/\Below w.heap.size w w':=by
 obtain ⟨kind,path,dest,num,who⟩:=e
 obtain ⟨h1,h2⟩:=he
 dsimp only at hk h1 h2
 have:kind=1\/kind=2\/kind=3\/kind=4\/kind=5\/kind=6\/kind=7\/kind=8\/kind=9\/kind=10:=by omega
 rcases this with rfl | rfl | rfl | rfl | rfl | rfl | rfl | rfl | rfl | rfl
 ·exact recordOf1 path dest num who w h1
 ·exact recordOf2 path dest num who w h1
 ·exact recordOf3 path dest num who w h2
 ·exact recordOf4 path dest num who w
 ·exact recordOf5 path dest num who w
 ·exact recordOf6 path dest num who w
 ·exact recordOf7 path dest num who w
 ·exact recordOf8 path dest num who w
 ·exact recordOf9 path dest num who w
 ·exact recordOf10 path dest num who w
structure CI (W:World) (B:Nat) (va:Option Addr) (n c:Nat) (rs gs:List NR) (k:Nat):Prop where
 len:gs.length=n
 nd:nds gs=nds rs
 own:W.ownsRow B 87 9 (.slice va n c) n (ncs gs)
 done:∀ i (hi:i<gs.length),i<k->W.ownsRow B 138 2 (.slice gs[i].loc gs[i].nd.pieces.length gs[i].cap) gs[i].nd.pieces.length (pcs gs[i].nd.pieces)
 ap:∀ i j (hi:i<gs.length) (hj:j<gs.length),i<j->j<k->gs[i].loc ≠ none->gs[j].loc ≠ none->gs[i].loc ≠ gs[j].loc
 rest:∀ i (hi:i<gs.length) (h2:i<rs.length),k<=i->gs[i]=rs[i]
theorem CI.below (h:CI W B va n c rs gs k) (hb:Below W.heap.size W W'):CI W' B va n c rs gs k:=by
 have hg:W.grownBy W' none:=⟨hb.os,hb.tape,hb.output,hb.size,fun k hk _=>hb.block k hk⟩
 exact ⟨h.len,h.nd,h.own.kept hg (Classical.em _),fun i hi hk=>(h.done i hi hk).kept hg (Classical.em _),h.ap,h.rest⟩
theorem CI.fin (h:CI W B va n c rs gs k) (hk:n<=k):NB W B (.slice va n c) gs:=by
 refine ⟨by rw [h.len];exact h.own,fun r hr=>?_,?_⟩
 ·obtain ⟨i,hi,rfl⟩:=List.getElem_of_mem hr
  exact h.done i hi (by have:=h.len;omega)
 ·refine List.pairwise_iff_getElem.2 fun i j hi hj hij=>h.ap i j hi hj hij (by have:=h.len;omega)
theorem CI.cell (h:CI W B (some ⟨g,0,none⟩) n c rs gs k) (i:Nat) (hi:i<gs.length) (f:Nat) (v:Value) (hv:(qaj gs[i])[f]?=some v):W.cell? ⟨g,i*9+f,none⟩=some v/\W.frozen? ⟨g,i*9+f,none⟩=false:=by
 have hf:f<9:=by have:=(List.getElem?_eq_some_iff.1 hv).1;rw [qao] at this;exact this
 exact (qar h.own).2 _ _ ((flat_get qao gs i hi f hf).trans hv)
theorem qgb {n c m cc:Nat} {L M:List Value} {loc:Option Addr} (hown:W.ownsRow B 87 9 (.slice (some ⟨g,0,none⟩) n c) n L) (h:W.ownsRow B 138 2 (.slice loc m cc) m M) (i:Nat) (x:Value):(W.setCell ⟨g,i,none⟩ x).ownsRow B 138 2 (.slice loc m cc) m M:=by
 refine h.kept (qak W g i x) ?_
 cases e:(Value.slice loc m cc).ownBlock with
 | none=>exact .inl rfl
 | some q =>
  refine .inr fun e2=>?_
  obtain ⟨c1,h1⟩:=qau h e
  obtain ⟨c2,h2⟩:=qau hown (show (Value.slice (some ⟨g,0,none⟩) n c).ownBlock=some g from rfl)
  cases e2
  rw [h1] at h2
  simp at h2
theorem CI.name (h:CI W B (some ⟨g,0,none⟩) n c rs gs k) (hk:k<gs.length):CI (W.setCell ⟨g,k*9+2,none⟩ (.string gs[k].nd.name)) B (some ⟨g,0,none⟩) n c rs gs k:=by
 have hcs:=qhf gs k hk 2 (by omega) (.string gs[k].nd.name) gs[k] rfl
 rw [List.set_getElem_self] at hcs
 have hst:=(h.own.stored (k*9+2) (.string gs[k].nd.name)).1
 rw [hcs] at hst
 exact ⟨h.len,h.nd,hst,fun i hi q=>qgb h.own (h.done i hi q) _ _,h.ap,h.rest⟩
theorem CI.piece {W W1:World} (h:CI W B (some ⟨g,0,none⟩) n c rs gs k) (hk:k<gs.length) (hB:B<=W.heap.size) (hb:Below W.heap.size W W1) {a':Option Addr} {c':Nat}
  (ho:W1.ownsRow W.heap.size 138 2 (.slice a' gs[k].nd.pieces.length c') gs[k].nd.pieces.length (pcs gs[k].nd.pieces)) :
  CI (W1.setCell ⟨g,k*9+7,none⟩ (.slice a' gs[k].nd.pieces.length c')) B (some ⟨g,0,none⟩) n c rs (gs.set k ⟨gs[k].nd,a',c'⟩) (k+1):=by
 have h1:=h.below hb
 have hcs:=qhf gs k hk 7 (by omega) (.slice a' gs[k].nd.pieces.length c') ⟨gs[k].nd,a',c'⟩ rfl
 have hst:=(h1.own.stored (k*9+7) (.slice a' gs[k].nd.pieces.length c')).1
 rw [hcs] at hst
 have hfar:∀ i (hi:i<gs.length),i<k->∀ q,gs[i].loc=some q->a' ≠ some q:=fun i hi hik q e e2=>by
  have l1:=((h.done i hi hik).lt q.block (by rw [e];rfl)).2
  have l2:=(ho.lt q.block (by rw [e2];rfl)).1
  omega
 refine ⟨by rw [List.length_set];exact h.len,?_,hst,fun i hi hik=>?_,fun i j hi hj hij hjk=>?_,fun i hi h2 hki=>?_⟩
 ·rw [qef,<-h.nd]
  have:gs[k].nd=(nds gs)[k]'(by rw [qaf];exact hk):=by simp [nds]
  rw [this,List.set_getElem_self]
 ·rw [List.length_set] at hi
  rw [List.getElem_set]
  split
  ·rename_i e
   subst e
   exact qgb h1.own (qet ho hB) _ _
  ·exact qgb h1.own (h1.done i hi (by omega)) _ _
 ·rw [List.length_set] at hi hj
  rw [List.getElem_set,List.getElem_set]
  by_cases e1:k=j
  ·subst e1
   rw [if_pos rfl,if_neg (by omega)]
   intro q1 q2 e
   obtain ⟨q,hq⟩:=Option.ne_none_iff_exists'.1 q1
   exact hfar i hi (by omega) q hq (by rw [<-hq,e])
  ·rw [if_neg e1,if_neg (by omega)]
   exact h.ap i j hi hj hij (by omega)
 ·rw [List.length_set] at hi
  rw [List.getElem_set,if_neg (by omega)]
  exact h.rest i hi h2 (by omega)
theorem qpw {v:Value} {T:TM} (h:TSee w v T lo hi) (hf:NFit T):Calls Tryz.prog 79 #[v] w fun e w'=>CpPost T w e w':=by
 obtain ⟨a,cap,rs,rfl,hr,hm⟩:=h
 obtain ⟨n,hn⟩:∃ n,n=rs.length:=⟨_,rfl⟩
 obtain ⟨nx,hnx⟩:∃ nx,nx=T.next:=⟨_,rfl⟩
 have hl:n<=1048576:=by unfold NFit at hf;rw [<-hr,qaf] at hf;omega
 have HSZ:Sh (∀ r ∈ rs,r.nd.name.size<=1048576/\r.nd.pieces.length<=1048576):=⟨fun r hr'=>by
  have:=qeo (show r.nd ∈ T.nodes by rw [<-hr];exact List.mem_map.2 ⟨r,hr',rfl⟩)
  unfold NFit at hf
  omega⟩
 unfold CpPost
 rw [<-hn,<-hnx,<-hr]
 have HN:=Sh.mk hn
 have HM:=Sh.mk hm
 have HCN:Sh (∀ W,Below w.heap.size w W->Calls Tryz.prog 117 #[.slice a n cap] W fun e w'=>qhh (ncs rs) n W e w'):=⟨fun W hb=>cloneN_any (fun hp=>by
   obtain ⟨b,off,e1,_,_,e2,e3⟩:=(hm.below hb).1 hp
   exact ⟨b,off,e1,e2,e3⟩) hn hl⟩
 unfold qhh at HCN
 clear hm hn hnx hr hf
 go_enter Tryz.func79,Tryz.ntmps79
 go_upto_region 1 with fail
 obtain ⟨tb,htb⟩:∃ tb,tb=w.heap.size:=⟨_,rfl⟩
 obtain ⟨rb,hrb⟩:∃ rb,rb=w.heap.size+1:=⟨_,rfl⟩
 refine qaa (fun W=>MB w W [(rb,[.slice none 0 0,.int .i64 0]),(tb,[.slice a n cap,.int .i64 nx])]/\rb<W.heap.size) ⟨by rw [hrb,htb];exact MB.two w #[.slice a n cap,.int .i64 nx] #[.slice none 0 0,.int .i64 0] 42 42,by rw [hrb];simp⟩ ?_
 rintro W1 ⟨hW1,hrl⟩
 have HMB:=Sh.mk hW1
 have x0:=((HMB.1.at 1 rfl).1.2 0 _ rfl).1
 have htr:Sh (tb<=rb/\w.heap.size<=tb):=⟨by omega⟩
 rw [<-hrb,<-htb]
 clear hW1 htb hrb
 go_upto_region 2 with (go_at_call 117;refine (HCN.1 _ HMB.1.bel).mono ?_;rintro e w2 ⟨va,vc,rfl,hown,hb2⟩;have HMB2:=Sh.mk (HMB.1.below hb2);have HOW:=Sh.mk hown;have HB2:=Sh.mk hb2;clear hown hb2 x0)
 have HCI:Sh (CI w2 W1.heap.size va n vc rs rs 0):=⟨⟨HN.1.symm,rfl,HOW.1,fun i hi h=>absurd h (Nat.not_lt_zero _),fun i j hi hj h1 h2=>absurd h2 (Nat.not_lt_zero _),fun i hi h2 _=>rfl⟩⟩
 have hsz2:Sh (W1.heap.size<=w2.heap.size):=⟨HB2.1.size⟩
 clear HCN HMB HOW HB2
 go_wp2_with fail
 go_loopw [10] (fun iv wr=>∃ (k:Nat) (gs:List NR),iv = .int .i64 k/\k<=n/\Sh (CI wr W1.heap.size va n vc rs gs k)/\Sh (MB w wr [(rb,[.slice none 0 0,.int .i64 0]),(tb,[.slice a n cap,.int .i64 nx])])/\Sh (W1.heap.size<=wr.heap.size)) (fun iv _=>n - (intOf iv).toNat)
 case atStart=>exact ⟨0,rs,rfl,Nat.zero_le _,HCI,HMB2,hsz2⟩
 case round =>
  clear HCI HMB2 hsz2
  obtain ⟨k,gs,rfl,hk,HCI,HMB,hsz⟩:=hrel
  obtain ⟨wo,rfl⟩:∃ wo,wo=wr:=⟨_,rfl⟩
  by_cases hlt:k<n
  case pos =>
   have hkg:k<gs.length:=by have:=HCI.1.len;omega
   have hkr:k<rs.length:=by have:=HN.1;omega
   have k0:(0:Int)<=(k:Int):=by omega
   have k1:(k:Int)<(n:Int):=by omega
   obtain ⟨g,vc',cur,e9,hBg,hgl,hgb⟩:=qei HCI.1.own (by omega)
   have hva:va=some ⟨g,0,none⟩:=(by simpa using e9:va=some ⟨g,0,none⟩/\vc=vc').1
   clear e9 hgb
   subst hva
   have hgk:gs[k]=rs[k]:=HCI.1.rest k hkg hkr (Nat.le_refl _)
   have hsz9:=HSZ.1 rs[k] (List.getElem_mem hkr)
   have HFAR:Sh (∀ (V:World) (i:Nat) (x:Value),MB w V [(rb,[.slice none 0 0,.int .i64 0]),(tb,[.slice a n cap,.int .i64 nx])]->MB w (V.setCell ⟨g,i,none⟩ x) [(rb,[.slice none 0 0,.int .i64 0]),(tb,[.slice a n cap,.int .i64 nx])]):=⟨fun V i x M=>M.far (qak V g i x) (fun p hp e=>by
    cases e
    have h9:=htr.1
    simp at hp
    rcases hp with rfl | rfl <;> simp at hBg hrl <;> omega) (fun q e=>by cases e;have:=htr.1;omega)⟩
   have HPR:Sh (RRow w rs[k].loc (pcs rs[k].nd.pieces) lo hi):=⟨HM.1.2 _ (List.getElem_mem hkr)⟩
   rw [<-hgk] at hsz9 HPR
   have c2:=HCI.1.cell k hkg 2 _ rfl
   obtain ⟨r,hrk⟩:∃ r,r=gs[k]:=⟨_,rfl⟩
   rw [<-hrk] at c2 hsz9 HPR
   have HRK:=Sh.mk hrk
   have HCL:=Sh.mk (fun W=>implClone r.nd.name W (by omega))
   clear hgk hrk
   obtain ⟨c2a,c2f⟩:=c2
   go_upto_region 6 with (go_at_call 81;refine (HCL.1 _).mono ?_;rintro e w5 ⟨rfl,hb5⟩;have HCI5:=Sh.mk (HCI.1.below hb5);have HMB5:=Sh.mk (HMB.1.below hb5);have HS5:=Sh.mk (Nat.le_trans hsz.1 hb5.size);obtain ⟨d2a,d2f⟩:=HCI5.1.cell k hkg 2 (.string r.nd.name) (by rw [<-HRK.1];rfl);clear hb5 c2a c2f)
   refine qaa (fun W=>CI W W1.heap.size (some ⟨g,0,none⟩) n vc rs gs k/\MB w W [(rb,[.slice none 0 0,.int .i64 0]),(tb,[.slice a n cap,.int .i64 nx])]/\W1.heap.size<=W.heap.size) ⟨by have:=HCI5.1.name hkg;rw [<-HRK.1] at this;exact this,HFAR.1 _ _ _ HMB5.1,by simp [World.setCell];exact HS5.1⟩ ?_
   rintro V ⟨hCV,hMV,hsV⟩
   have HCV:=Sh.mk hCV
   have HMV:=Sh.mk hMV
   have HSV:=Sh.mk hsV
   clear hCV hMV hsV HCI5 HMB5 HS5 HCI HMB hsz d2a d2f HCL
   obtain ⟨c7a,c7f⟩:=HCV.1.cell k hkg 7 (.slice r.loc r.nd.pieces.length r.cap) (by rw [<-HRK.1];rfl)
   obtain ⟨pl,hpl⟩:∃ pl,pl=r.nd.pieces.length:=⟨_,rfl⟩
   have HPL:=Sh.mk hpl
   have HCP:Sh (Calls Tryz.prog 118 #[.slice r.loc pl r.cap] V fun e w'=>qhg (pcs r.nd.pieces) pl V e w'):=⟨cloneP_any (fun hp=>by
    obtain ⟨b,off,e1,_,_,e2,e3⟩:=(HPR.1.below HMV.1.bel) hp
    exact ⟨b,off,e1,e2,e3⟩) hpl (by omega)⟩
   unfold qhg at HCP
   rw [<-hpl] at c7a
   clear hpl hsz9
   go_wp2_with (go_at_call 118;refine HCP.1.mono ?_;rintro e w6 ⟨pa,pcc,rfl,hpo,hb6⟩;have HPO:=Sh.mk hpo;have HB6:=Sh.mk hb6;obtain ⟨d7a,d7f⟩:=(HCV.1.below hb6).cell k hkg 7 (.slice r.loc pl r.cap) (by rw [<-HRK.1,HPL.1];rfl);clear hpo hb6 c7a c7f)
   go_roundw
   case rel =>
    have h9:=HCV.1.piece hkg HSV.1 HB6.1 (a':=pa) (c':=pcc) (by rw [<-HRK.1,<-HPL.1];exact HPO.1)
    rw [<-HRK.1,<-HPL.1] at h9
    exact ⟨k+1,_,by go_num,by omega,⟨h9⟩,⟨HFAR.1 _ _ _ (HMV.1.below HB6.1)⟩,⟨by simp [World.setCell];exact Nat.le_trans HSV.1 HB6.1.size⟩⟩
   case measure=>simp [intOf];omega
  case neg =>
   have k1:¬ (k:Int)<(n:Int):=by omega
   have HNB:=Sh.mk (HCI.1.fin (by omega))
   have HND:=Sh.mk HCI.1.nd
   have HGL:=Sh.mk HCI.1.len
   obtain ⟨z0,zf0⟩:=(HMB.1.at 0 rfl).1.2 0 _ rfl
   obtain ⟨z1,zf1⟩:=(HMB.1.at 0 rfl).1.2 1 _ rfl
   have y1:=((HMB.1.at 1 rfl).1.2 1 _ rfl).1
   have hne:¬ (tb=rb):=by have:=htr.1;have h8:=(List.pairwise_cons.1 HMB.1.dist).1 _ (List.mem_singleton.2 rfl);exact fun e=>h8 e.symm
   clear HCI
   go_wp2_with fail
   refine qac (fun W=>MB w W [(rb,[.slice va n vc,.int .i64 nx]),(tb,[.slice a n cap,.int .i64 nx])]/\NB W W1.heap.size (.slice va n vc) gs) ⟨(HMB.1.put 0 rfl 0 (.slice va n vc) (by simp)).put 0 rfl 1 (.int .i64 nx) (by simp),(HNB.1.setBox rb 0 _ hrl).setBox rb 1 _ hrl⟩ ?_
   rintro W9 ⟨hM9,hN9⟩
   have r0:=((hM9.at 0 rfl).1.2 0 _ rfl).1
   have r1:=((hM9.at 0 rfl).1.2 1 _ rfl).1
   have hb9:=hM9.bel
   refine bodyPost_ret (v:=.agg #[.slice va n vc,.int .i64 nx]) (by simp [results,Tryz.results79,go_sem,r0,r1]) rfl ⟨va,vc,gs,by rw [HGL.1],HND.1,by rw [HGL.1];exact hN9.low (by have:=htr.1;omega),hb9⟩
def idxI (p:NM->Bool) (ns:List NM):Int:=match ns.findIdx? p with
 | some i=>(i:Int)
 | none=>-1
theorem idxI_at (ns:List NM) (id:Int):idxI (fun n=>n.id==id) ns=atI ns id:=rfl
theorem test_id (r:NR) (ib:Nat) (id:Int) (w:World) (h:w.cell? ⟨ib,0,none⟩=some (.int .i64 id)) (hl:ib<w.heap.size):Calls Tryz.prog 123 #[nv r,.pointer (some ⟨ib,0,none⟩)] w fun e w'=>e = .returned (.bool (r.nd.id==id))/\Below w.heap.size w w':=by
 obtain ⟨R,hR⟩:∃ R,R=(r.nd.id==id):=⟨_,rfl⟩
 rw [<-hR]
 go_enter Tryz.func123,Tryz.ntmps123
 go_wp2_with fail
 go_ret
 exact ⟨by simp [*],(Below.refl _ _).alloc (Nat.le_refl _) _⟩
theorem qnj (r:NR) (gb:Nat) (a:Option Addr) (cap:Nat) (X:List Int) (w:World) (h:w.cell? ⟨gb,0,none⟩=some (.slice a X.length cap)) (hl:gb<w.heap.size) (hc:CRow w a (ics X)) (hX:X.length<=1048576):Calls Tryz.prog 242 #[nv r,.pointer (some ⟨gb,0,none⟩)] w fun e w'=>e = .returned (.bool (X.contains r.nd.id))/\Below w.heap.size w w':=by
 have HC:Sh (∀ W,Below w.heap.size w W->Calls Tryz.prog 182 #[.slice a X.length cap,.int .i64 r.nd.id] W fun e w'=>e = .returned (.bool (X.contains r.nd.id))/\w'=W):=⟨fun W hb=>qex cap r.nd.id (hc.stays hb) hX⟩
 generalize X.contains r.nd.id=R at HC ⊢
 generalize X.length=m at HC h
 clear hc hX
 go_enter Tryz.func242,Tryz.ntmps242
 go_wp2_with (go_at_call 182;refine (HC.1 _ ((Below.refl _ _).alloc (Nat.le_refl _) _)).mono ?_;rintro e w1 ⟨rfl,hw1⟩;subst hw1)
 go_ret
 exact ⟨rfl,(Below.refl _ _).alloc (Nat.le_refl _) _⟩
theorem indexId (p:NM->Bool) (cv:Value) (hm:TR w a rs lo hi) (hn:n=rs.length) (hl:n<=1048576)
  (HC:∀ W,Below w.heap.size w W->∀ r ∈ rs,Calls Tryz.prog 123 #[nv r,cv] W fun e w'=>e = .returned (.bool (p r.nd))/\Below W.heap.size W w') :
  Calls Tryz.prog 122 #[.slice a n cap,.func (.func 123) #[] #[cv]] w fun e w'=>e = .returned (.int .i64 (idxI p (nds rs)))/\Below w.heap.size w w':=by
 obtain ⟨R,hR⟩:∃ R,R=idxI p (nds rs):=⟨_,rfl⟩
 rw [<-hR]
 have HR:=Sh.mk hR
 have HT:=Sh.mk hm
 have HCC:=Sh.mk HC
 have HN:=Sh.mk hn
 clear hR hm HC hn
 go_enter Tryz.func122,Tryz.ntmps122
 go_wp2_with fail
 go_loopw [8] (fun iv wr=>∃ k:Nat,iv = .int .i64 k/\k<=n/\Sh (∀ j (hj:j<rs.length),j<k->p rs[j].nd=false)/\Sh (Below w.heap.size w wr)) (fun iv _=>n - (intOf iv).toNat)
 case atStart=>exact ⟨0,rfl,Nat.zero_le _,⟨fun _ _ h=>absurd h (Nat.not_lt_zero _)⟩,⟨Below.refl _ _⟩⟩
 case round =>
  obtain ⟨k,rfl,hk,hno,HW⟩:=hrel
  by_cases hlt:k<n
  case pos =>
   have hkr:k<rs.length:=by have:=HN.1;omega
   have k0:(0:Int)<=(k:Int):=by omega
   have k1:(k:Int)<(n:Int):=by omega
   obtain ⟨b,off,rfl,lb,hnat⟩:=HT.1.nat (by omega)
   have hnk:=(hnat k hkr).below HW.1 lb
   have HCK:=Sh.mk (HCC.1 wr HW.1 rs[k] (List.getElem_mem hkr))
   obtain ⟨r,hrk⟩:∃ r,r=rs[k]:=⟨_,rfl⟩
   rw [<-hrk] at hnk HCK
   have HRK:=Sh.mk hrk
   obtain ⟨c0,c1,c2,c3,c4,c5,c6,c7,c8⟩:=hnk
   have lb':b<wr.heap.size:=Nat.lt_of_lt_of_le lb HW.1.size
   obtain ⟨q,hq⟩:∃ q,q=p r.nd:=⟨_,rfl⟩
   rw [<-hq] at HCK
   have HQ:=Sh.mk hq
   clear hnat hrk hq
   cases q with
   | true =>
    have HE:Sh (R=(k:Int)):=⟨by
     rw [HR.1]
     unfold idxI
     have:(nds rs).findIdx? p=some k:=by
      rw [List.findIdx?_eq_some_iff_getElem]
      refine ⟨by rw [qaf];exact hkr,by simp only [nds,List.getElem_map];rw [<-HRK.1,<-HQ.1],fun j hj=>?_⟩
      have:=hno.1 j (by omega) hj
      simp only [nds,List.getElem_map]
      rw [this]
      simp
     rw [this]⟩
    go_wp2_with (go_at_call 123;refine HCK.1.mono ?_;rintro e w1 ⟨rfl,hb1⟩;have HB1:=Sh.mk (HW.1.trans (hb1.mono HW.1.size));clear hb1)
    go_ret
    exact ⟨by rw [HE.1];rfl,HB1.1⟩
   | false =>
    go_wp2_with (go_at_call 123;refine HCK.1.mono ?_;rintro e w1 ⟨rfl,hb1⟩;have HB1:=Sh.mk (HW.1.trans (hb1.mono HW.1.size));clear hb1)
    go_roundw
    case rel =>
     refine ⟨k+1,by go_num,by omega,⟨fun j hj hjk=>?_⟩,HB1⟩
     rcases Nat.lt_succ_iff_lt_or_eq.1 hjk with h | h
     ·exact hno.1 j hj h
     ·subst h
      rw [<-HRK.1,<-HQ.1]
    case measure=>simp [intOf];omega
  case neg =>
   have k1:¬ (k:Int)<(n:Int):=by omega
   have HE:Sh (R = -1):=⟨by
    rw [HR.1]
    unfold idxI
    have:(nds rs).findIdx? p=none:=by
     rw [List.findIdx?_eq_none_iff]
     intro x hx
     obtain ⟨r,hr,rfl⟩:=List.mem_map.1 hx
     obtain ⟨j,hj,rfl⟩:=List.getElem_of_mem hr
     exact hno.1 j hj (by have:=HN.1;omega)
    rw [this]⟩
   go_wp2_with fail
   go_ret
   exact ⟨by rw [HE.1];rfl,HW.1⟩
theorem indexGone (p:NM->Bool) (cv:Value) (hm:TR w a rs lo hi) (hn:n=rs.length) (hl:n<=1048576)
  (HC:∀ W,Below w.heap.size w W->∀ r ∈ rs,Calls Tryz.prog 242 #[nv r,cv] W fun e w'=>e = .returned (.bool (p r.nd))/\Below W.heap.size W w') :
  Calls Tryz.prog 122 #[.slice a n cap,.func (.func 242) #[] #[cv]] w fun e w'=>e = .returned (.int .i64 (idxI p (nds rs)))/\Below w.heap.size w w':=by
 obtain ⟨R,hR⟩:∃ R,R=idxI p (nds rs):=⟨_,rfl⟩
 rw [<-hR]
 have HR:=Sh.mk hR
 have HT:=Sh.mk hm
 have HCC:=Sh.mk HC
 have HN:=Sh.mk hn
 clear hR hm HC hn
 go_enter Tryz.func122,Tryz.ntmps122
 go_wp2_with fail
 go_loopw [8] (fun iv wr=>∃ k:Nat,iv = .int .i64 k/\k<=n/\Sh (∀ j (hj:j<rs.length),j<k->p rs[j].nd=false)/\Sh (Below w.heap.size w wr)) (fun iv _=>n - (intOf iv).toNat)
 case atStart=>exact ⟨0,rfl,Nat.zero_le _,⟨fun _ _ h=>absurd h (Nat.not_lt_zero _)⟩,⟨Below.refl _ _⟩⟩
 case round =>
  obtain ⟨k,rfl,hk,hno,HW⟩:=hrel
  by_cases hlt:k<n
  case pos =>
   have hkr:k<rs.length:=by have:=HN.1;omega
   have k0:(0:Int)<=(k:Int):=by omega
   have k1:(k:Int)<(n:Int):=by omega
   obtain ⟨b,off,rfl,lb,hnat⟩:=HT.1.nat (by omega)
   have hnk:=(hnat k hkr).below HW.1 lb
   have HCK:=Sh.mk (HCC.1 wr HW.1 rs[k] (List.getElem_mem hkr))
   obtain ⟨r,hrk⟩:∃ r,r=rs[k]:=⟨_,rfl⟩
   rw [<-hrk] at hnk HCK
   have HRK:=Sh.mk hrk
   obtain ⟨c0,c1,c2,c3,c4,c5,c6,c7,c8⟩:=hnk
   have lb':b<wr.heap.size:=Nat.lt_of_lt_of_le lb HW.1.size
   obtain ⟨q,hq⟩:∃ q,q=p r.nd:=⟨_,rfl⟩
   rw [<-hq] at HCK
   have HQ:=Sh.mk hq
   clear hnat hrk hq
   cases q with
   | true =>
    have HE:Sh (R=(k:Int)):=⟨by
     rw [HR.1]
     unfold idxI
     have:(nds rs).findIdx? p=some k:=by
      rw [List.findIdx?_eq_some_iff_getElem]
      refine ⟨by rw [qaf];exact hkr,by simp only [nds,List.getElem_map];rw [<-HRK.1,<-HQ.1],fun j hj=>?_⟩
      have:=hno.1 j (by omega) hj
      simp only [nds,List.getElem_map]
      rw [this]
      simp
     rw [this]⟩
    go_wp2_with (go_at_call 242;refine HCK.1.mono ?_;rintro e w1 ⟨rfl,hb1⟩;have HB1:=Sh.mk (HW.1.trans (hb1.mono HW.1.size));clear hb1)
    go_ret
    exact ⟨by rw [HE.1];rfl,HB1.1⟩
   | false =>
    go_wp2_with (go_at_call 242;refine HCK.1.mono ?_;rintro e w1 ⟨rfl,hb1⟩;have HB1:=Sh.mk (HW.1.trans (hb1.mono HW.1.size));clear hb1)
    go_roundw
    case rel =>
     refine ⟨k+1,by go_num,by omega,⟨fun j hj hjk=>?_⟩,HB1⟩
     rcases Nat.lt_succ_iff_lt_or_eq.1 hjk with h | h
     ·exact hno.1 j hj h
     ·subst h
      rw [<-HRK.1,<-HQ.1]
    case measure=>simp [intOf];omega
  case neg =>
   have k1:¬ (k:Int)<(n:Int):=by omega
   have HE:Sh (R = -1):=⟨by
    rw [HR.1]
    unfold idxI
    have:(nds rs).findIdx? p=none:=by
     rw [List.findIdx?_eq_none_iff]
     intro x hx
     obtain ⟨r,hr,rfl⟩:=List.mem_map.1 hx
     obtain ⟨j,hj,rfl⟩:=List.getElem_of_mem hr
     exact hno.1 j hj (by have:=HN.1;omega)
    rw [this]⟩
   go_wp2_with fail
   go_ret
   exact ⟨by rw [HE.1];rfl,HW.1⟩
structure SS (w0 W:World) (L:List (Nat × List Value)) (B:Nat) (a:Option Addr) (n cap:Nat) (rs:List NR):Prop where
 mb:MB w0 W L
 nb:NB W B (.slice a n cap) rs
 len:rs.length=n
 ap:∀ p ∈ L,(∀ q,a=some q->q.block ≠ p.1)/\∀ r ∈ rs,∀ q,r.loc=some q->q.block ≠ p.1
 lo:w0.heap.size<=B
theorem SS.below (h:SS w0 W L B a n cap rs) (hb:Below W.heap.size W W'):SS w0 W' L B a n cap rs:=
 ⟨h.mb.below hb,h.nb.below hb,h.len,h.ap,h.lo⟩
theorem SS.less {p:Nat × List Value} (h:SS w0 W (p::L) B a n cap rs):SS w0 W L B a n cap rs:=
 ⟨h.mb.less,h.nb,h.len,fun q hq=>h.ap q (List.mem_cons_of_mem _ hq),h.lo⟩
theorem NB.row_lt (h:NB w B (.slice a n cap) rs):∀ q,a=some q->q.block<w.heap.size:=fun q e=>(h.own.lt q.block (by rw [e];rfl)).2
theorem SS.new (h:SS w0 W L B a n cap rs) (cs:Array Value) (t:TypeId):SS w0 (W.alloc (.cells cs t)) ((W.heap.size,cs.toList)::L) B a n cap rs:=by
 have hb:Below W.heap.size W (W.alloc (.cells cs t)):=(Below.refl _ _).alloc (Nat.le_refl _) _
 refine ⟨h.mb.new cs t,h.nb.below hb,h.len,fun p hp=>?_,h.lo⟩
 rcases List.mem_cons.1 hp with rfl | hp
 ·refine ⟨fun q e=>?_,fun r hr q e=>?_⟩
  ·have:=h.nb.row_lt q e
   show q.block ≠ W.heap.size
   omega
  ·have:=h.nb.lts r hr q e
   show q.block ≠ W.heap.size
   omega
 ·exact h.ap p hp
theorem SS.put (h:SS w0 W L B (some ⟨g,0,none⟩) n cap rs) (hk:rs[k]?=some r) (f:Nat) (hf:f<9) (x:Value) (r':NR) (hc:qaj r'=(qaj r).set f x) (hl:r'.loc=r.loc) (hcp:r'.cap=r.cap) (hp:r'.nd.pieces=r.nd.pieces) :
  SS w0 (W.setCell ⟨g,k*9+f,none⟩ x) L B (some ⟨g,0,none⟩) n cap (rs.set k r'):=by
 obtain ⟨hk',e⟩:=List.getElem?_eq_some_iff.1 hk
 have hg:B<=g:=(h.nb.own.lt g rfl).1
 refine ⟨h.mb.far (qak W g (k*9+f) x) (fun p hp e=>(h.ap p hp).1 ⟨g,0,none⟩ rfl (by cases e;rfl)) (fun q e=>by cases e;have:=h.lo;omega),h.nb.putK h.len hk f hf x r' hc hl hcp hp,by rw [List.length_set];exact h.len,fun p hp=>⟨(h.ap p hp).1,fun s hs q eq=>?_⟩,h.lo⟩
 rcases List.mem_or_eq_of_mem_set hs with m | m
 ·exact (h.ap p hp).2 s m q eq
 ·rw [m,hl] at eq
  exact (h.ap p hp).2 r (by rw [<-e];exact List.getElem_mem hk') q eq
theorem SS.setBox (h:SS w0 W L B a n cap rs) (i:Nat) {b:Nat} {X:List Value} (hi:L[i]?=some (b,X)) (j:Nat) (v:Value) (hj:j<X.length):SS w0 (W.setCell ⟨b,j,none⟩ v) (L.set i (b,X.set j v)) B a n cap rs:=by
 have hm:(b,X) ∈ L:=List.mem_of_getElem? hi
 refine ⟨h.mb.put i hi j v hj,h.nb.setAway b j v (fun e=>?_) (fun r hr q e=>(h.ap _ hm).2 r hr q e),h.len,fun p hp=>?_,h.lo⟩
 ·cases a with
  | none=>cases e
  | some q =>
   simp [Value.ownBlock] at e
   exact (h.ap _ hm).1 q rfl e
 ·rcases List.mem_or_eq_of_mem_set hp with q | q
  ·exact h.ap p q
  ·rw [q]
   have:=h.ap _ hm
   exact this
theorem SS.cell (h:SS w0 W L B (some ⟨g,0,none⟩) n cap rs) (hk:rs[k]?=some r) (f:Nat) (v:Value) (hv:(qaj r)[f]?=some v):W.cell? ⟨g,k*9+f,none⟩=some v/\W.frozen? ⟨g,k*9+f,none⟩=false:=h.nb.cellK h.len hk f v hv
theorem chSchema (h:SS w0 W L B (some ⟨g,0,none⟩) n cap rs) (hk:rs[k]?=some r) (tp:Value) (path:ByteArray) (num:Int) (gr:Int):Calls Tryz.prog 243 #[.agg #[.string path,.int .i64 num],tp,.pointer (some ⟨g,k*9,none⟩),.int .i64 gr] W fun e w'=>e = .returned (.tuple #[])/\SS w0 w' L B (some ⟨g,0,none⟩) n cap (rs.set k ⟨{ r.nd with schema:=num },r.loc,r.cap⟩):=by
 have HS:=Sh.mk (h.new #[.string path,.int .i64 num] 229)
 have HK:=Sh.mk hk
 obtain ⟨c0,f0⟩:=HS.1.cell hk 4 _ rfl
 have x0:=((HS.1.mb.at 0 rfl).1.2 0 _ rfl).1
 have x1:=((HS.1.mb.at 0 rfl).1.2 1 _ rfl).1
 clear h hk
 go_enter Tryz.func243,Tryz.ntmps243
 go_wp2_with fail
 refine qac (fun w9=>SS w0 w9 L B (some ⟨g,0,none⟩) n cap (rs.set k ⟨{ r.nd with schema:=num },r.loc,r.cap⟩)) ((HS.1.put HK.1 4 (by omega) (.int .i64 num) ⟨{ r.nd with schema:=num },r.loc,r.cap⟩ rfl rfl rfl rfl).less) ?_
 intro w9 h9
 refine bodyPost_end (v:=.tuple #[]) (by simp [results,Tryz.results243,go_sem]) rfl ⟨rfl,h9⟩
theorem chQuota (h:SS w0 W L B (some ⟨g,0,none⟩) n cap rs) (hk:rs[k]?=some r) (tp:Value) (path:ByteArray) (num:Int) (gr:Int):Calls Tryz.prog 244 #[.agg #[.string path,.int .i64 num],tp,.pointer (some ⟨g,k*9,none⟩),.int .i64 gr] W fun e w'=>e = .returned (.tuple #[])/\SS w0 w' L B (some ⟨g,0,none⟩) n cap (rs.set k ⟨{ r.nd with quota:=num },r.loc,r.cap⟩):=by
 have HS:=Sh.mk (h.new #[.string path,.int .i64 num] 231)
 have HK:=Sh.mk hk
 obtain ⟨c0,f0⟩:=HS.1.cell hk 5 _ rfl
 have x0:=((HS.1.mb.at 0 rfl).1.2 0 _ rfl).1
 have x1:=((HS.1.mb.at 0 rfl).1.2 1 _ rfl).1
 clear h hk
 go_enter Tryz.func244,Tryz.ntmps244
 go_wp2_with fail
 refine qac (fun w9=>SS w0 w9 L B (some ⟨g,0,none⟩) n cap (rs.set k ⟨{ r.nd with quota:=num },r.loc,r.cap⟩)) ((HS.1.put HK.1 5 (by omega) (.int .i64 num) ⟨{ r.nd with quota:=num },r.loc,r.cap⟩ rfl rfl rfl rfl).less) ?_
 intro w9 h9
 refine bodyPost_end (v:=.tuple #[]) (by simp [results,Tryz.results244,go_sem]) rfl ⟨rfl,h9⟩
theorem chClose (h:SS w0 W L B (some ⟨g,0,none⟩) n cap rs) (hk:rs[k]?=some r) (tp:Value) (path:ByteArray) (gr:Int):Calls Tryz.prog 246 #[.agg #[.string path],tp,.pointer (some ⟨g,k*9,none⟩),.int .i64 gr] W fun e w'=>e = .returned (.tuple #[])/\SS w0 w' L B (some ⟨g,0,none⟩) n cap (rs.set k ⟨{ r.nd with writer:=0 },r.loc,r.cap⟩):=by
 have HS:=Sh.mk (h.new #[.string path] 234)
 have HK:=Sh.mk hk
 obtain ⟨c0,f0⟩:=HS.1.cell hk 8 _ rfl
 have x0:=((HS.1.mb.at 0 rfl).1.2 0 _ rfl).1
 clear h hk
 go_enter Tryz.func246,Tryz.ntmps246
 go_wp2_with fail
 refine qac (fun w9=>SS w0 w9 L B (some ⟨g,0,none⟩) n cap (rs.set k ⟨{ r.nd with writer:=0 },r.loc,r.cap⟩)) ((HS.1.put HK.1 8 (by omega) (.int .i64 0) ⟨{ r.nd with writer:=0 },r.loc,r.cap⟩ rfl rfl rfl rfl).less) ?_
 intro w9 h9
 refine bodyPost_end (v:=.tuple #[]) (by simp [results,Tryz.results246,go_sem]) rfl ⟨rfl,h9⟩
theorem chOpen (h:SS w0 W L B (some ⟨g,0,none⟩) n cap rs) (hk:rs[k]?=some r) (tp:Value) (path:ByteArray) (who:Int) (gr:Int):Calls Tryz.prog 247 #[.agg #[.string path,.int .i64 who],tp,.pointer (some ⟨g,k*9,none⟩),.int .i64 gr] W fun e w'=>e = .returned (.tuple #[])/\SS w0 w' L B (some ⟨g,0,none⟩) n cap (rs.set k ⟨{ r.nd with writer:=who },r.loc,r.cap⟩):=by
 have HS:=Sh.mk (h.new #[.string path,.int .i64 who] 236)
 have HK:=Sh.mk hk
 obtain ⟨c0,f0⟩:=HS.1.cell hk 8 _ rfl
 have x0:=((HS.1.mb.at 0 rfl).1.2 0 _ rfl).1
 have x1:=((HS.1.mb.at 0 rfl).1.2 1 _ rfl).1
 clear h hk
 go_enter Tryz.func247,Tryz.ntmps247
 go_wp2_with fail
 refine qac (fun w9=>SS w0 w9 L B (some ⟨g,0,none⟩) n cap (rs.set k ⟨{ r.nd with writer:=who },r.loc,r.cap⟩)) ((HS.1.put HK.1 8 (by omega) (.int .i64 who) ⟨{ r.nd with writer:=who },r.loc,r.cap⟩ rfl rfl rfl rfl).less) ?_
 intro w9 h9
 refine bodyPost_end (v:=.tuple #[]) (by simp [results,Tryz.results247,go_sem]) rfl ⟨rfl,h9⟩
theorem chBoot (w:World) (path:ByteArray) (tp np:Value) (gr:Int):Calls Tryz.prog 248 #[.agg #[.string path],tp,np,.int .i64 gr] w fun e w'=>e = .returned (.tuple #[])/\Below w.heap.size w w':=by
 go_enter Tryz.func248,Tryz.ntmps248
 go_wp2_with fail
 refine qac (fun w9=>Below w.heap.size w w9) (by first | exact Below.refl _ _ | exact (Below.refl _ _).alloc (Nat.le_refl _) _) ?_
 intro w9 h9
 refine bodyPost_end (v:=.tuple #[]) (by simp [results,Tryz.results248,go_sem]) rfl ⟨rfl,h9⟩
end Go.Proofs.YtoglebfiobofoaaGreatDoor
