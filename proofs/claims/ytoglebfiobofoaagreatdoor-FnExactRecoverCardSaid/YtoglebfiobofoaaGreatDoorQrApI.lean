/- Texts of ours, laid one behind the other: ApI. -/
import Derived.Test.YtoglebfiobofoaaGreatDoorQrApC
import Derived.Test.YtoglebfiobofoaaGreatDoorQrApD
import Derived.Test.YtoglebfiobofoaaGreatDoorQrApE
import Derived.Test.YtoglebfiobofoaaGreatDoorQrApG
import Derived.Test.YtoglebfiobofoaaGreatDoorQr7
/- ApI: . -/
namespace Go.Proofs.YtoglebfiobofoaaGreatDoor
set_option maxRecDepth 100000
set_option maxHeartbeats 16000000
open Go.RowKit BigFrame
attribute [local go_sem ↓] Go.wp_at_zero Go.wp_at_succ
variable {hi lo:Nat} {T:TM} {v:Value} {w:World}
theorem TAns.wide {lo hi lo' hi':Nat} (h:TAns w v T lo hi) (h1:lo'<=lo) (h2:hi<=hi'):TAns w v T lo' hi':=by
 obtain ⟨a,cap,rs,e,hr,hc,q⟩:=h
 refine ⟨a,cap,rs,e,hr,hc,?_⟩
 rcases q with q | ⟨g,e2,q⟩
 ·exact .inl q
 ·exact .inr ⟨g,e2,q.wide h1 h2⟩
theorem TAns.box (h:TAns w v T lo hi) (g i:Nat) (x:Value) (hg:g<lo):TAns (w.setCell ⟨g,i,none⟩ x) v T lo hi:=
 h.turned (Turned.of_grown (lo:=g) (hi:=g+1) (qak w g i x) (Nat.le_refl _) (by omega)) (by omega)
theorem fin5 {w W w9:World} {L:List (Nat × List Value)} {rb:Nat} {x y:Value} (M:MB w W L) (i:Nat) (hi:L[i]?=some (rb,[x,y])) (hb:Below W.heap.size W w9) (h:TAns w9 v T W.heap.size w9.heap.size) :
  ∃ a m c t,v = .agg #[.slice a m c,.int .i64 t]/\FinT w ((w9.setCell ⟨rb,0,none⟩ (.slice a m c)).setCell ⟨rb,1,none⟩ (.int .i64 t)) rb (.slice a m c) t T:=by
 have h':=h
 obtain ⟨a,cap,rs,rfl,hr,hc,q⟩:=h
 have hrb:=(M.at i hi).1.1
 have M2:=((M.below hb).put i hi 0 (.slice a rs.length cap) (by simp)).put i (by rw [List.getElem?_set_self (List.getElem?_eq_some_iff.1 hi).1]) 1 (.int .i64 T.next) (by simp)
 have hL:((L.set i (rb,[x,y].set 0 (.slice a rs.length cap))).set i (rb,([x,y].set 0 (.slice a rs.length cap)).set 1 (.int .i64 T.next)))[i]?=some (rb,[.slice a rs.length cap,.int .i64 T.next]):=by
  rw [List.getElem?_set_self (by rw [List.length_set];exact (List.getElem?_eq_some_iff.1 hi).1)]
  rfl
 refine ⟨_,_,_,_,rfl,((M2.at i hL).1.2 0 _ rfl).1,((M2.at i hL).1.2 1 _ rfl).1,?_,M2.bel⟩
 have hs:((w9.setCell ⟨rb,0,none⟩ (.slice a rs.length cap)).setCell ⟨rb,1,none⟩ (.int .i64 T.next)).heap.size=w9.heap.size:=by simp
 rw [hs]
 exact ((h'.box rb 0 _ hrb).box rb 1 _ hrb).wide M.bel.size (Nat.le_refl _)
theorem qmt (e:EM) (gr:Int) (h:TSee w v T lo hi) (hf:NFit T) (he:EFit e):Calls Tryz.prog 45 #[v,ev e,.int .i64 gr] w fun r w'=>qdw (qam T e gr) w r w':=by
 have HTK:=Sh.mk (fun (W:World) (hb:Below w.heap.size w W)=>qdc (h.below hb) hf)
 have HEK:=Sh.mk (fun (W:World)=>qkt e W he)
 have HIN:=Sh.mk (fun W=>isInI gr 1 99000 W _ rfl)
 have HCP:=Sh.mk (fun (W:World) (hb:Below w.heap.size w W)=>qpv (h.below hb) hf)
 have HFP:=Sh.mk (fun (W:World) (hb:Below w.heap.size w W)=>qbz e.path (h.below hb) hf he.1)
 have hl:T.nodes.length<=1048576:=by unfold NFit at hf;omega
 have HAT:=Sh.mk (fun (i:Int) (W:World) (hb:Below w.heap.size w W)=>qfh i (h.below hb) hl)
 have HADD:=Sh.mk (fun (x:NM) (hx:x.pieces=[]) (ht:qae T=true) (W:World) (hb:Below w.heap.size w W)=>specAdd e.path x hx (h.below hb) hf he.1 (qbf ht).1 ⟨by have:=qic ht;omega,by have:=qbf ht;omega⟩ (qpb ht e.path x hx))
 have HMV:=Sh.mk (fun (k:Nat) (ht:qae T=true) (hk:k<T.nodes.length) (hid:atI T.nodes (findX T e.path)=(k:Int)) (W:World) (hb:Below w.heap.size w W)=>specMove e (findX T e.path) k (h.below hb) hf he.2 hk hid (qpp ht e.dest _ k hk hid))
 have HDR:=Sh.mk (fun (ht:qae T=true) (W:World) (hb:Below w.heap.size w W)=>specDrop (findX T e.path) (h.below hb) hf (qbf ht).1)
 have HST:=Sh.mk (fun (k:Nat) (hk:k<T.nodes.length) (W:World) (hb:Below w.heap.size w W)=>specSet e k (h.below hb) hf hk)
 have HWR:=Sh.mk (fun (k:Nat) (ht:qae T=true) (hek:qat e=true) (hg:inI gr 1 99000=true) (hk:k<T.nodes.length) (W:World) (hb:Below w.heap.size w W)=>specWrite e k gr (h.below hb) hf hk ⟨by have:=inI_iff.1 hg;omega,by have:=inI_iff.1 hg;omega⟩ ⟨by have:=qiq hek;omega,by have:=qiq hek;omega⟩ (by rw [qdx hk];have:=qbl ht k hk;exact ⟨by omega,by omega⟩))
 have HFT:=Sh.mk (@qki T e.path)
 have HX:Sh (qam T e gr=if mayX T e gr=false then (T,7) else if e.kind=10 then (T,0) else if e.kind=1 then addX T e.path newDir else if e.kind=2 then addX T e.path (qdd e.who) else if findX T e.path=0 then (T,1) else if e.kind=3 then moveX T e.dest (findX T e.path) else if e.kind=4 then (dropT T (findX T e.path),0) else if e.kind=5\/e.kind=6 then setX T e (plc T (findX T e.path)) else qbr T e (plc T (findX T e.path)) gr):=⟨rfl⟩
 generalize qam T e gr=R at HX ⊢
 have HMAY:Sh (mayX T e gr=(qae T&&qat e&&inI gr 1 99000)):=⟨rfl⟩
 generalize mayX T e gr=may at HX HMAY
 obtain ⟨tk,htk⟩:∃ q,q=qae T:=⟨_,rfl⟩
 obtain ⟨ek,hek⟩:∃ q,q=qat e:=⟨_,rfl⟩
 obtain ⟨gk,hgk⟩:∃ q,q=inI gr 1 99000:=⟨_,rfl⟩
 simp only [<-htk] at HTK HMAY HADD HMV HDR HWR
 simp only [<-hek] at HEK HMAY HWR
 simp only [<-hgk] at HIN HMAY HWR
 clear htk hek hgk
 obtain ⟨a,cap,rs,rfl,hr,hm⟩:=h
 obtain ⟨nodes,nx⟩:=T
 obtain ⟨n,hn⟩:∃ n,n=rs.length:=⟨_,rfl⟩
 rw [<-hn] at HTK HCP HFP HAT HADD HMV HDR HST HWR ⊢
 clear hn hm hr hf hl he
 obtain ⟨kind,path,dest,num,who⟩:=e
 dsimp only at *
 obtain ⟨id,hid⟩:∃ q,q=findX ⟨nodes,nx⟩ path:=⟨_,rfl⟩
 simp only [<-hid] at HFP HX HMV HDR HFT
 clear hid
 have HM0:=Sh.mk (MB.three w #[.slice a n cap,.int .i64 nx] #[.int .i64 kind,.string path,.string dest,.int .i64 num,.int .i64 who] #[.slice none 0 0,.int .i64 0] 42 33 42)
 go_enter Tryz.func45,Tryz.ntmps45
 go_upto_region 1 with fail
 refine qaa (fun W=>MB w W [(w.heap.size+1+1,[.slice none 0 0,.int .i64 0]),(w.heap.size+1,qah ⟨kind,path,dest,num,who⟩),(w.heap.size,[.slice a n cap,.int .i64 nx])]) HM0.1 ?_
 intro W0 hM
 have HM:=Sh.mk hM
 clear hM HM0
 have x0:=((HM.1.at 2 rfl).1.2 0 _ rfl).1
 have x1:=((HM.1.at 2 rfl).1.2 1 _ rfl).1
 have y0:=((HM.1.at 1 rfl).1.2 0 _ rfl).1
 have y1:=((HM.1.at 1 rfl).1.2 1 _ rfl).1
 have y2:=((HM.1.at 1 rfl).1.2 2 _ rfl).1
 have y3:=((HM.1.at 1 rfl).1.2 3 _ rfl).1
 have y4:=((HM.1.at 1 rfl).1.2 4 _ rfl).1
 dsimp only at y0 y1 y2 y3 y4
 cases tk with
 | false =>
  have HXX:Sh (R=(⟨nodes,nx⟩,7)):=⟨by rw [HX.1,if_pos (by rw [HMAY.1];simp)]⟩
  go_wp2_with (first
    | (go_at_call 84;refine (HTK.1 _ HM.1.bel).mono ?_;rintro e w2 ⟨rfl,hb2⟩;replace HM:=Sh.mk (HM.1.below hb2);clear x0 x1 y0 y1 y2 y3 y4 hb2;have x0:=((HM.1.at 2 rfl).1.2 0 _ rfl).1;have x1:=((HM.1.at 2 rfl).1.2 1 _ rfl).1;have y0:=((HM.1.at 1 rfl).1.2 0 _ rfl).1;have y1:=((HM.1.at 1 rfl).1.2 1 _ rfl).1;have y2:=((HM.1.at 1 rfl).1.2 2 _ rfl).1;have y3:=((HM.1.at 1 rfl).1.2 3 _ rfl).1;have y4:=((HM.1.at 1 rfl).1.2 4 _ rfl).1;dsimp only at y0 y1 y2 y3 y4)
    | (go_at_call 85;refine (HEK.1 _).mono ?_;rintro e w3 ⟨rfl,hb3⟩;replace HM:=Sh.mk (HM.1.below hb3);clear x0 x1 y0 y1 y2 y3 y4 hb3;have x0:=((HM.1.at 2 rfl).1.2 0 _ rfl).1;have x1:=((HM.1.at 2 rfl).1.2 1 _ rfl).1;have y0:=((HM.1.at 1 rfl).1.2 0 _ rfl).1;have y1:=((HM.1.at 1 rfl).1.2 1 _ rfl).1;have y2:=((HM.1.at 1 rfl).1.2 2 _ rfl).1;have y3:=((HM.1.at 1 rfl).1.2 3 _ rfl).1;have y4:=((HM.1.at 1 rfl).1.2 4 _ rfl).1;dsimp only at y0 y1 y2 y3 y4)
    | (go_at_call 52;refine (HIN.1 _).mono ?_;rintro e w4 ⟨rfl,rfl⟩)
    | (go_at_call 44;refine (HCP.1 _ HM.1.bel).mono ?_;rintro e w9 ⟨vv,rfl,hans,hb9⟩;have HMP:=Sh.mk (HM.1.below hb9);obtain ⟨a5,m5,c5,t5,hform,hfin⟩:=fin5 HM.1 0 rfl hb9 hans;subst hform;have HFIN:=Sh.mk hfin;obtain ⟨q0,qf0⟩:=(HMP.1.at 0 rfl).1.2 0 _ rfl;obtain ⟨q1,qf1⟩:=(HMP.1.at 0 rfl).1.2 1 _ rfl;clear hb9 hans hfin HMP))
  refine qac (fun W=>FinT w W (w.heap.size+1+1) (.slice a5 m5 c5) t5 ⟨nodes,nx⟩) HFIN.1 ?_
  rintro W8 ⟨r0,r1,hans,hbel⟩
  exact bodyPost_ret (v:=.tuple #[.agg #[.slice a5 m5 c5,.int .i64 t5],.int .i64 7]) (by simp [results,Tryz.results45,go_sem,r0,r1]) rfl ⟨_,by rw [HXX.1],by rw [HXX.1];exact hans,hbel⟩
 | true =>
 cases ek with
 | false =>
  have HXX:Sh (R=(⟨nodes,nx⟩,7)):=⟨by rw [HX.1,if_pos (by rw [HMAY.1];simp)]⟩
  go_wp2_with (first
    | (go_at_call 84;refine (HTK.1 _ HM.1.bel).mono ?_;rintro e w2 ⟨rfl,hb2⟩;replace HM:=Sh.mk (HM.1.below hb2);clear x0 x1 y0 y1 y2 y3 y4 hb2;have x0:=((HM.1.at 2 rfl).1.2 0 _ rfl).1;have x1:=((HM.1.at 2 rfl).1.2 1 _ rfl).1;have y0:=((HM.1.at 1 rfl).1.2 0 _ rfl).1;have y1:=((HM.1.at 1 rfl).1.2 1 _ rfl).1;have y2:=((HM.1.at 1 rfl).1.2 2 _ rfl).1;have y3:=((HM.1.at 1 rfl).1.2 3 _ rfl).1;have y4:=((HM.1.at 1 rfl).1.2 4 _ rfl).1;dsimp only at y0 y1 y2 y3 y4)
    | (go_at_call 85;refine (HEK.1 _).mono ?_;rintro e w3 ⟨rfl,hb3⟩;replace HM:=Sh.mk (HM.1.below hb3);clear x0 x1 y0 y1 y2 y3 y4 hb3;have x0:=((HM.1.at 2 rfl).1.2 0 _ rfl).1;have x1:=((HM.1.at 2 rfl).1.2 1 _ rfl).1;have y0:=((HM.1.at 1 rfl).1.2 0 _ rfl).1;have y1:=((HM.1.at 1 rfl).1.2 1 _ rfl).1;have y2:=((HM.1.at 1 rfl).1.2 2 _ rfl).1;have y3:=((HM.1.at 1 rfl).1.2 3 _ rfl).1;have y4:=((HM.1.at 1 rfl).1.2 4 _ rfl).1;dsimp only at y0 y1 y2 y3 y4)
    | (go_at_call 52;refine (HIN.1 _).mono ?_;rintro e w4 ⟨rfl,rfl⟩)
    | (go_at_call 44;refine (HCP.1 _ HM.1.bel).mono ?_;rintro e w9 ⟨vv,rfl,hans,hb9⟩;have HMP:=Sh.mk (HM.1.below hb9);obtain ⟨a5,m5,c5,t5,hform,hfin⟩:=fin5 HM.1 0 rfl hb9 hans;subst hform;have HFIN:=Sh.mk hfin;obtain ⟨q0,qf0⟩:=(HMP.1.at 0 rfl).1.2 0 _ rfl;obtain ⟨q1,qf1⟩:=(HMP.1.at 0 rfl).1.2 1 _ rfl;clear hb9 hans hfin HMP))
  refine qac (fun W=>FinT w W (w.heap.size+1+1) (.slice a5 m5 c5) t5 ⟨nodes,nx⟩) HFIN.1 ?_
  rintro W8 ⟨r0,r1,hans,hbel⟩
  exact bodyPost_ret (v:=.tuple #[.agg #[.slice a5 m5 c5,.int .i64 t5],.int .i64 7]) (by simp [results,Tryz.results45,go_sem,r0,r1]) rfl ⟨_,by rw [HXX.1],by rw [HXX.1];exact hans,hbel⟩
 | true =>
 cases gk with
 | false =>
  have HXX:Sh (R=(⟨nodes,nx⟩,7)):=⟨by rw [HX.1,if_pos (by rw [HMAY.1];simp)]⟩
  go_wp2_with (first
    | (go_at_call 84;refine (HTK.1 _ HM.1.bel).mono ?_;rintro e w2 ⟨rfl,hb2⟩;replace HM:=Sh.mk (HM.1.below hb2);clear x0 x1 y0 y1 y2 y3 y4 hb2;have x0:=((HM.1.at 2 rfl).1.2 0 _ rfl).1;have x1:=((HM.1.at 2 rfl).1.2 1 _ rfl).1;have y0:=((HM.1.at 1 rfl).1.2 0 _ rfl).1;have y1:=((HM.1.at 1 rfl).1.2 1 _ rfl).1;have y2:=((HM.1.at 1 rfl).1.2 2 _ rfl).1;have y3:=((HM.1.at 1 rfl).1.2 3 _ rfl).1;have y4:=((HM.1.at 1 rfl).1.2 4 _ rfl).1;dsimp only at y0 y1 y2 y3 y4)
    | (go_at_call 85;refine (HEK.1 _).mono ?_;rintro e w3 ⟨rfl,hb3⟩;replace HM:=Sh.mk (HM.1.below hb3);clear x0 x1 y0 y1 y2 y3 y4 hb3;have x0:=((HM.1.at 2 rfl).1.2 0 _ rfl).1;have x1:=((HM.1.at 2 rfl).1.2 1 _ rfl).1;have y0:=((HM.1.at 1 rfl).1.2 0 _ rfl).1;have y1:=((HM.1.at 1 rfl).1.2 1 _ rfl).1;have y2:=((HM.1.at 1 rfl).1.2 2 _ rfl).1;have y3:=((HM.1.at 1 rfl).1.2 3 _ rfl).1;have y4:=((HM.1.at 1 rfl).1.2 4 _ rfl).1;dsimp only at y0 y1 y2 y3 y4)
    | (go_at_call 52;refine (HIN.1 _).mono ?_;rintro e w4 ⟨rfl,rfl⟩)
    | (go_at_call 44;refine (HCP.1 _ HM.1.bel).mono ?_;rintro e w9 ⟨vv,rfl,hans,hb9⟩;have HMP:=Sh.mk (HM.1.below hb9);obtain ⟨a5,m5,c5,t5,hform,hfin⟩:=fin5 HM.1 0 rfl hb9 hans;subst hform;have HFIN:=Sh.mk hfin;obtain ⟨q0,qf0⟩:=(HMP.1.at 0 rfl).1.2 0 _ rfl;obtain ⟨q1,qf1⟩:=(HMP.1.at 0 rfl).1.2 1 _ rfl;clear hb9 hans hfin HMP))
  refine qac (fun W=>FinT w W (w.heap.size+1+1) (.slice a5 m5 c5) t5 ⟨nodes,nx⟩) HFIN.1 ?_
  rintro W8 ⟨r0,r1,hans,hbel⟩
  exact bodyPost_ret (v:=.tuple #[.agg #[.slice a5 m5 c5,.int .i64 t5],.int .i64 7]) (by simp [results,Tryz.results45,go_sem,r0,r1]) rfl ⟨_,by rw [HXX.1],by rw [HXX.1];exact hans,hbel⟩
 | true =>
 have HX2:Sh (R=if kind=10 then (⟨nodes,nx⟩,0) else if kind=1 then addX ⟨nodes,nx⟩ path newDir else if kind=2 then addX ⟨nodes,nx⟩ path (qdd who) else if id=0 then (⟨nodes,nx⟩,1) else if kind=3 then moveX ⟨nodes,nx⟩ dest id else if kind=4 then (dropT ⟨nodes,nx⟩ id,0) else if kind=5\/kind=6 then setX ⟨nodes,nx⟩ ⟨kind,path,dest,num,who⟩ (plc ⟨nodes,nx⟩ id) else qbr ⟨nodes,nx⟩ ⟨kind,path,dest,num,who⟩ (plc ⟨nodes,nx⟩ id) gr):=⟨by rw [HX.1,if_neg (by rw [HMAY.1];simp)]⟩
 go_upto_region 3 with (first
  | (go_at_call 84;refine (HTK.1 _ HM.1.bel).mono ?_;rintro e w2 ⟨rfl,hb2⟩;replace HM:=Sh.mk (HM.1.below hb2);clear x0 x1 y0 y1 y2 y3 y4 hb2;have x0:=((HM.1.at 2 rfl).1.2 0 _ rfl).1;have x1:=((HM.1.at 2 rfl).1.2 1 _ rfl).1;have y0:=((HM.1.at 1 rfl).1.2 0 _ rfl).1;have y1:=((HM.1.at 1 rfl).1.2 1 _ rfl).1;have y2:=((HM.1.at 1 rfl).1.2 2 _ rfl).1;have y3:=((HM.1.at 1 rfl).1.2 3 _ rfl).1;have y4:=((HM.1.at 1 rfl).1.2 4 _ rfl).1;dsimp only at y0 y1 y2 y3 y4)
  | (go_at_call 85;refine (HEK.1 _).mono ?_;rintro e w3 ⟨rfl,hb3⟩;replace HM:=Sh.mk (HM.1.below hb3);clear x0 x1 y0 y1 y2 y3 y4 hb3;have x0:=((HM.1.at 2 rfl).1.2 0 _ rfl).1;have x1:=((HM.1.at 2 rfl).1.2 1 _ rfl).1;have y0:=((HM.1.at 1 rfl).1.2 0 _ rfl).1;have y1:=((HM.1.at 1 rfl).1.2 1 _ rfl).1;have y2:=((HM.1.at 1 rfl).1.2 2 _ rfl).1;have y3:=((HM.1.at 1 rfl).1.2 3 _ rfl).1;have y4:=((HM.1.at 1 rfl).1.2 4 _ rfl).1;dsimp only at y0 y1 y2 y3 y4)
  | (go_at_call 52;refine (HIN.1 _).mono ?_;rintro e w4 ⟨rfl,rfl⟩)
  | (go_at_call 44;refine (HCP.1 _ HM.1.bel).mono ?_;rintro e w9 ⟨vv,rfl,hans,hb9⟩;have HMP:=Sh.mk (HM.1.below hb9);obtain ⟨a5,m5,c5,t5,hform,hfin⟩:=fin5 HM.1 0 rfl hb9 hans;subst hform;have HFIN:=Sh.mk hfin;obtain ⟨q0,qf0⟩:=(HMP.1.at 0 rfl).1.2 0 _ rfl;obtain ⟨q1,qf1⟩:=(HMP.1.at 0 rfl).1.2 1 _ rfl;clear hb9 hans hfin HMP))
 by_cases h10:kind=10
 ·have b10:(kind==10)=true:=by simp [h10]
  have HXX:Sh (R=(⟨nodes,nx⟩,0)):=⟨by rw [HX2.1,if_pos h10]⟩
  clear h10
  go_wp2_with (go_at_call 44;refine (HCP.1 _ HM.1.bel).mono ?_;rintro e w9 ⟨vv,rfl,hans,hb9⟩;have HMP:=Sh.mk (HM.1.below hb9);obtain ⟨a5,m5,c5,t5,hform,hfin⟩:=fin5 HM.1 0 rfl hb9 hans;subst hform;have HFIN:=Sh.mk hfin;obtain ⟨q0,qf0⟩:=(HMP.1.at 0 rfl).1.2 0 _ rfl;obtain ⟨q1,qf1⟩:=(HMP.1.at 0 rfl).1.2 1 _ rfl;clear hb9 hans hfin HMP)
  refine qac (fun W=>FinT w W (w.heap.size+1+1) (.slice a5 m5 c5) t5 ⟨nodes,nx⟩) HFIN.1 ?_
  rintro W8 ⟨r0,r1,hans,hbel⟩
  exact bodyPost_ret (v:=.tuple #[.agg #[.slice a5 m5 c5,.int .i64 t5],.int .i64 0]) (by simp [results,Tryz.results45,go_sem,r0,r1]) rfl ⟨_,by rw [HXX.1],by rw [HXX.1];exact hans,hbel⟩
 have b10:(kind==10)=false:=by simp [h10]
 by_cases h1:kind=1
 ·have b1:(kind==1)=true:=by simp [h1]
  have HP:Sh (∀ (W:World) (hb:Below w.heap.size w W),Calls Tryz.prog 86 #[.agg #[.slice a n cap,.int .i64 nx],.string path,.agg #[.int .i64 0,.int .i64 0,.string ⟨#[]⟩,.bool true,.int .i64 0,.int .i64 0,.int .i64 0,.slice none 0 0,.int .i64 0]] W fun r w'=>qdw (addX ⟨nodes,nx⟩ path newDir) W r w'):=⟨fun W hb=>HADD.1 newDir rfl trivial W hb⟩
  have HX9:Sh (R=addX ⟨nodes,nx⟩ path newDir):=⟨by rw [HX2.1,if_neg h10,if_pos h1]⟩
  obtain ⟨RT,rc,hRR⟩:∃ RT rc,addX ⟨nodes,nx⟩ path newDir=(RT,rc):=⟨_,_,rfl⟩
  rw [hRR] at HP HX9
  have HXX:Sh (R=(RT,rc)):=HX9
  clear h10 h1 hRR
  go_wp2_with (go_at_call 86;refine (HP.1 _ HM.1.bel).mono ?_;rintro e w9 ⟨vv,rfl,hans,hb9⟩;(try dsimp only at hans);have HMP:=Sh.mk (HM.1.below hb9);obtain ⟨a5,m5,c5,t5,hform,hfin⟩:=fin5 HM.1 0 rfl hb9 hans;subst hform;have HFIN:=Sh.mk hfin;obtain ⟨q0,qf0⟩:=(HMP.1.at 0 rfl).1.2 0 _ rfl;obtain ⟨q1,qf1⟩:=(HMP.1.at 0 rfl).1.2 1 _ rfl;clear hb9 hans hfin HMP)
  refine qac (fun W=>FinT w W (w.heap.size+1+1) (.slice a5 m5 c5) t5 RT) HFIN.1 ?_
  rintro W8 ⟨r0,r1,hans,hbel⟩
  exact bodyPost_ret (v:=.tuple #[.agg #[.slice a5 m5 c5,.int .i64 t5],.int .i64 rc]) (by simp [results,Tryz.results45,go_sem,r0,r1]) rfl ⟨_,by rw [HXX.1],by rw [HXX.1];exact hans,hbel⟩
 have b1:(kind==1)=false:=by simp [h1]
 by_cases h2:kind=2
 ·have b2:(kind==2)=true:=by simp [h2]
  have HP:Sh (∀ (W:World) (hb:Below w.heap.size w W),Calls Tryz.prog 86 #[.agg #[.slice a n cap,.int .i64 nx],.string path,.agg #[.int .i64 0,.int .i64 0,.string ⟨#[]⟩,.bool false,.int .i64 0,.int .i64 0,.int .i64 0,.slice none 0 0,.int .i64 who]] W fun r w'=>qdw (addX ⟨nodes,nx⟩ path (qdd who)) W r w'):=⟨fun W hb=>HADD.1 (qdd who) rfl trivial W hb⟩
  have HX9:Sh (R=addX ⟨nodes,nx⟩ path (qdd who)):=⟨by rw [HX2.1,if_neg h10,if_neg h1,if_pos h2]⟩
  obtain ⟨RT,rc,hRR⟩:∃ RT rc,addX ⟨nodes,nx⟩ path (qdd who)=(RT,rc):=⟨_,_,rfl⟩
  rw [hRR] at HP HX9
  have HXX:Sh (R=(RT,rc)):=HX9
  clear h10 h2 hRR h1
  go_wp2_with (go_at_call 86;refine (HP.1 _ HM.1.bel).mono ?_;rintro e w9 ⟨vv,rfl,hans,hb9⟩;(try dsimp only at hans);have HMP:=Sh.mk (HM.1.below hb9);obtain ⟨a5,m5,c5,t5,hform,hfin⟩:=fin5 HM.1 0 rfl hb9 hans;subst hform;have HFIN:=Sh.mk hfin;obtain ⟨q0,qf0⟩:=(HMP.1.at 0 rfl).1.2 0 _ rfl;obtain ⟨q1,qf1⟩:=(HMP.1.at 0 rfl).1.2 1 _ rfl;clear hb9 hans hfin HMP)
  refine qac (fun W=>FinT w W (w.heap.size+1+1) (.slice a5 m5 c5) t5 RT) HFIN.1 ?_
  rintro W8 ⟨r0,r1,hans,hbel⟩
  exact bodyPost_ret (v:=.tuple #[.agg #[.slice a5 m5 c5,.int .i64 t5],.int .i64 rc]) (by simp [results,Tryz.results45,go_sem,r0,r1]) rfl ⟨_,by rw [HXX.1],by rw [HXX.1];exact hans,hbel⟩
 have b2:(kind==2)=false:=by simp [h2]
 have HX3:Sh (R=if id=0 then (⟨nodes,nx⟩,1) else if kind=3 then moveX ⟨nodes,nx⟩ dest id else if kind=4 then (dropT ⟨nodes,nx⟩ id,0) else if kind=5\/kind=6 then setX ⟨nodes,nx⟩ ⟨kind,path,dest,num,who⟩ (plc ⟨nodes,nx⟩ id) else qbr ⟨nodes,nx⟩ ⟨kind,path,dest,num,who⟩ (plc ⟨nodes,nx⟩ id) gr):=⟨by rw [HX2.1,if_neg h10,if_neg h1,if_neg h2]⟩
 clear h10 h1 h2 HX HX2 HADD
 go_upto_region 11 with (go_at_call 87;refine (HFP.1 _ HM.1.bel).mono ?_;rintro e w5 ⟨rfl,hb5⟩;replace HM:=Sh.mk (HM.1.below hb5);clear x0 x1 y0 y1 y2 y3 y4 hb5;have x0:=((HM.1.at 2 rfl).1.2 0 _ rfl).1;have x1:=((HM.1.at 2 rfl).1.2 1 _ rfl).1;have y0:=((HM.1.at 1 rfl).1.2 0 _ rfl).1;have y1:=((HM.1.at 1 rfl).1.2 1 _ rfl).1;have y2:=((HM.1.at 1 rfl).1.2 2 _ rfl).1;have y3:=((HM.1.at 1 rfl).1.2 3 _ rfl).1;have y4:=((HM.1.at 1 rfl).1.2 4 _ rfl).1;dsimp only at y0 y1 y2 y3 y4)
 by_cases hid:id=0
 ·have bid:(id==0)=true:=by simp [hid]
  have HXX:Sh (R=(⟨nodes,nx⟩,1)):=⟨by rw [HX3.1,if_pos hid]⟩
  clear hid
  go_wp2_with (go_at_call 44;refine (HCP.1 _ HM.1.bel).mono ?_;rintro e w9 ⟨vv,rfl,hans,hb9⟩;have HMP:=Sh.mk (HM.1.below hb9);obtain ⟨a5,m5,c5,t5,hform,hfin⟩:=fin5 HM.1 0 rfl hb9 hans;subst hform;have HFIN:=Sh.mk hfin;obtain ⟨q0,qf0⟩:=(HMP.1.at 0 rfl).1.2 0 _ rfl;obtain ⟨q1,qf1⟩:=(HMP.1.at 0 rfl).1.2 1 _ rfl;clear hb9 hans hfin HMP)
  refine qac (fun W=>FinT w W (w.heap.size+1+1) (.slice a5 m5 c5) t5 ⟨nodes,nx⟩) HFIN.1 ?_
  rintro W8 ⟨r0,r1,hans,hbel⟩
  exact bodyPost_ret (v:=.tuple #[.agg #[.slice a5 m5 c5,.int .i64 t5],.int .i64 1]) (by simp [results,Tryz.results45,go_sem,r0,r1]) rfl ⟨_,by rw [HXX.1],by rw [HXX.1];exact hans,hbel⟩
 have bid:(id==0)=false:=by simp [hid]
 obtain ⟨k,hk,hat,-⟩:=HFT.1 hid
 have HX4:Sh (R=if kind=3 then moveX ⟨nodes,nx⟩ dest id else if kind=4 then (dropT ⟨nodes,nx⟩ id,0) else if kind=5\/kind=6 then setX ⟨nodes,nx⟩ ⟨kind,path,dest,num,who⟩ k else qbr ⟨nodes,nx⟩ ⟨kind,path,dest,num,who⟩ k gr):=⟨by
  have e:plc ⟨nodes,nx⟩ id=k:=by unfold plc;dsimp only;rw [hat];rfl
  rw [HX3.1,if_neg hid,e]⟩
 have HA2:Sh (∀ (W:World) (hb:Below w.heap.size w W),Calls Tryz.prog 91 #[.agg #[.slice a n cap,.int .i64 nx],.int .i64 id] W fun e w'=>e = .returned (.int .i64 (k:Nat))/\Below W.heap.size W w'):=⟨fun W hb=>by have:=HAT.1 id W hb;rw [hat] at this;exact this⟩
 have HHK:=Sh.mk hk
 have HHT:=Sh.mk hat
 clear hid HX3 HFT HFP hk hat HAT
 by_cases h3:kind=3
 ·have b3:(kind==3)=true:=by simp [h3]
  have HP:=Sh.mk (fun (W:World) (hb:Below w.heap.size w W)=>HMV.1 k trivial HHK.1 HHT.1 W hb)
  have HX9:Sh (R=moveX ⟨nodes,nx⟩ dest id):=⟨by rw [HX4.1,if_pos h3]⟩
  obtain ⟨RT,rc,hRR⟩:∃ RT rc,moveX ⟨nodes,nx⟩ dest id=(RT,rc):=⟨_,_,rfl⟩
  rw [hRR] at HP HX9
  have HXX:Sh (R=(RT,rc)):=HX9
  clear h3 hRR
  go_wp2_with (go_at_call 88;refine (HP.1 _ HM.1.bel).mono ?_;rintro e w9 ⟨vv,rfl,hans,hb9⟩;(try dsimp only at hans);have HMP:=Sh.mk (HM.1.below hb9);obtain ⟨a5,m5,c5,t5,hform,hfin⟩:=fin5 HM.1 0 rfl hb9 hans;subst hform;have HFIN:=Sh.mk hfin;obtain ⟨q0,qf0⟩:=(HMP.1.at 0 rfl).1.2 0 _ rfl;obtain ⟨q1,qf1⟩:=(HMP.1.at 0 rfl).1.2 1 _ rfl;clear hb9 hans hfin HMP)
  refine qac (fun W=>FinT w W (w.heap.size+1+1) (.slice a5 m5 c5) t5 RT) HFIN.1 ?_
  rintro W8 ⟨r0,r1,hans,hbel⟩
  exact bodyPost_ret (v:=.tuple #[.agg #[.slice a5 m5 c5,.int .i64 t5],.int .i64 rc]) (by simp [results,Tryz.results45,go_sem,r0,r1]) rfl ⟨_,by rw [HXX.1],by rw [HXX.1];exact hans,hbel⟩
 have b3:(kind==3)=false:=by simp [h3]
 by_cases h4:kind=4
 ·have b4:(kind==4)=true:=by simp [h4]
  have HP:=Sh.mk (fun (W:World) (hb:Below w.heap.size w W)=>HDR.1 trivial W hb)
  have HXX:Sh (R=(dropT ⟨nodes,nx⟩ id,0)):=⟨by rw [HX4.1,if_neg h3,if_pos h4]⟩
  clear h3 h4
  go_wp2_with (go_at_call 89;refine (HP.1 _ HM.1.bel).mono ?_;rintro e w9 ⟨vv,rfl,hans,hb9⟩;(try dsimp only at hans);have HMP:=Sh.mk (HM.1.below hb9);obtain ⟨a5,m5,c5,t5,hform,hfin⟩:=fin5 HM.1 0 rfl hb9 hans;subst hform;have HFIN:=Sh.mk hfin;obtain ⟨q0,qf0⟩:=(HMP.1.at 0 rfl).1.2 0 _ rfl;obtain ⟨q1,qf1⟩:=(HMP.1.at 0 rfl).1.2 1 _ rfl;clear hb9 hans hfin HMP)
  refine qac (fun W=>FinT w W (w.heap.size+1+1) (.slice a5 m5 c5) t5 (dropT ⟨nodes,nx⟩ id)) HFIN.1 ?_
  rintro W8 ⟨r0,r1,hans,hbel⟩
  exact bodyPost_ret (v:=.tuple #[.agg #[.slice a5 m5 c5,.int .i64 t5],.int .i64 0]) (by simp [results,Tryz.results45,go_sem,r0,r1]) rfl ⟨_,by rw [HXX.1],by rw [HXX.1];exact hans,hbel⟩
 have b4:(kind==4)=false:=by simp [h4]
 have HX5:Sh (R=if kind=5\/kind=6 then setX ⟨nodes,nx⟩ ⟨kind,path,dest,num,who⟩ k else qbr ⟨nodes,nx⟩ ⟨kind,path,dest,num,who⟩ k gr):=⟨by rw [HX4.1,if_neg h3,if_neg h4]⟩
 clear h3 h4 HX4 HMV HDR
 by_cases h5:kind=5
 ·have b5:(kind==5)=true:=by simp [h5]
  have HP:=Sh.mk (fun (W:World) (hb:Below w.heap.size w W)=>HST.1 k HHK.1 W hb)
  have HX9:Sh (R=setX ⟨nodes,nx⟩ ⟨kind,path,dest,num,who⟩ k):=⟨by rw [HX5.1,if_pos (.inl h5)]⟩
  obtain ⟨RT,rc,hRR⟩:∃ RT rc,setX ⟨nodes,nx⟩ ⟨kind,path,dest,num,who⟩ k=(RT,rc):=⟨_,_,rfl⟩
  rw [hRR] at HP HX9
  have HXX:Sh (R=(RT,rc)):=HX9
  clear h5 hRR
  go_upto_region 20 with fail
  have l0:=(HM.1.at 2 rfl).1.1
  have l1:=(HM.1.at 1 rfl).1.1
  have l2:=(HM.1.at 0 rfl).1.1
  have m1:¬ (w.heap.size+1+1=w.heap.size):=by omega
  have m2:¬ (w.heap.size=w.heap.size+1+1):=by omega
  go_region_held3 (fun w'=>w'.cell? ⟨w.heap.size,0,none⟩=some (.slice a n cap)/\w'.cell? ⟨w.heap.size,1,none⟩=some (.int .i64 nx)/\w'.cell? ⟨w.heap.size+1,0,none⟩=some (.int .i64 kind)/\w'.cell? ⟨w.heap.size+1,1,none⟩=some (.string path)/\w'.cell? ⟨w.heap.size+1,2,none⟩=some (.string dest)/\w'.cell? ⟨w.heap.size+1,3,none⟩=some (.int .i64 num)/\w'.cell? ⟨w.heap.size+1,4,none⟩=some (.int .i64 who)) (first | go_keep | (rw [hb6.cell (p:=⟨w.heap.size,0,none⟩) l0,hb6.cell (p:=⟨w.heap.size,1,none⟩) l0,hb6.cell (p:=⟨w.heap.size+1,0,none⟩) l1,hb6.cell (p:=⟨w.heap.size+1,1,none⟩) l1,hb6.cell (p:=⟨w.heap.size+1,2,none⟩) l1,hb6.cell (p:=⟨w.heap.size+1,3,none⟩) l1,hb6.cell (p:=⟨w.heap.size+1,4,none⟩) l1];assumption) | (rw [hb7.cell (p:=⟨w.heap.size,0,none⟩) l0',hb7.cell (p:=⟨w.heap.size,1,none⟩) l0',hb7.cell (p:=⟨w.heap.size+1,0,none⟩) l1',hb7.cell (p:=⟨w.heap.size+1,1,none⟩) l1',hb7.cell (p:=⟨w.heap.size+1,2,none⟩) l1',hb7.cell (p:=⟨w.heap.size+1,3,none⟩) l1',hb7.cell (p:=⟨w.heap.size+1,4,none⟩) l1'];assumption)) (first
   | (go_at_call 91;refine (HA2.1 _ HM.1.bel.drew).mono ?_;rintro e w6 ⟨rfl,hb6⟩;have HM6:=Sh.mk (HM.1.below (Below.trans (Below.drew (Below.refl _ _)) hb6));have l0':=(HM6.1.at 2 rfl).1.1;have l1':=(HM6.1.at 1 rfl).1.1)
   | (go_at_call 90;refine (HP.1 _ HM6.1.bel).mono ?_;rintro e w9 ⟨vv,rfl,hans,hb7⟩;dsimp only at hans;have hb9:=hb7;have HMP:=Sh.mk (HM6.1.below hb9);obtain ⟨a5,m5,c5,t5,hform,hfin⟩:=fin5 HM6.1 0 rfl hb9 hans;subst hform;have HFIN:=Sh.mk hfin;obtain ⟨q0,qf0⟩:=(HMP.1.at 0 rfl).1.2 0 _ rfl;obtain ⟨q1,qf1⟩:=(HMP.1.at 0 rfl).1.2 1 _ rfl;clear hb9 hans hfin HMP))
  all_goals
   go_wp2_with fail
   refine qac (fun W=>FinT w W (w.heap.size+1+1) (.slice a5 m5 c5) t5 RT) HFIN.1 ?_
   rintro W8 ⟨r0,r1,hans,hbel⟩
   exact bodyPost_ret (v:=.tuple #[.agg #[.slice a5 m5 c5,.int .i64 t5],.int .i64 rc]) (by simp [results,Tryz.results45,go_sem,r0,r1]) rfl ⟨_,by rw [HXX.1],by rw [HXX.1];exact hans,hbel⟩
 have b5:(kind==5)=false:=by simp [h5]
 by_cases h6:kind=6
 ·have b6:(kind==6)=true:=by simp [h6]
  have HP:=Sh.mk (fun (W:World) (hb:Below w.heap.size w W)=>HST.1 k HHK.1 W hb)
  have HX9:Sh (R=setX ⟨nodes,nx⟩ ⟨kind,path,dest,num,who⟩ k):=⟨by rw [HX5.1,if_pos (.inr h6)]⟩
  obtain ⟨RT,rc,hRR⟩:∃ RT rc,setX ⟨nodes,nx⟩ ⟨kind,path,dest,num,who⟩ k=(RT,rc):=⟨_,_,rfl⟩
  rw [hRR] at HP HX9
  have HXX:Sh (R=(RT,rc)):=HX9
  clear h6 hRR
  go_upto_region 20 with fail
  have l0:=(HM.1.at 2 rfl).1.1
  have l1:=(HM.1.at 1 rfl).1.1
  have l2:=(HM.1.at 0 rfl).1.1
  have m1:¬ (w.heap.size+1+1=w.heap.size):=by omega
  have m2:¬ (w.heap.size=w.heap.size+1+1):=by omega
  go_region_held3 (fun w'=>w'.cell? ⟨w.heap.size,0,none⟩=some (.slice a n cap)/\w'.cell? ⟨w.heap.size,1,none⟩=some (.int .i64 nx)/\w'.cell? ⟨w.heap.size+1,0,none⟩=some (.int .i64 kind)/\w'.cell? ⟨w.heap.size+1,1,none⟩=some (.string path)/\w'.cell? ⟨w.heap.size+1,2,none⟩=some (.string dest)/\w'.cell? ⟨w.heap.size+1,3,none⟩=some (.int .i64 num)/\w'.cell? ⟨w.heap.size+1,4,none⟩=some (.int .i64 who)) (first | go_keep | (rw [hb6.cell (p:=⟨w.heap.size,0,none⟩) l0,hb6.cell (p:=⟨w.heap.size,1,none⟩) l0,hb6.cell (p:=⟨w.heap.size+1,0,none⟩) l1,hb6.cell (p:=⟨w.heap.size+1,1,none⟩) l1,hb6.cell (p:=⟨w.heap.size+1,2,none⟩) l1,hb6.cell (p:=⟨w.heap.size+1,3,none⟩) l1,hb6.cell (p:=⟨w.heap.size+1,4,none⟩) l1];assumption) | (rw [hb7.cell (p:=⟨w.heap.size,0,none⟩) l0',hb7.cell (p:=⟨w.heap.size,1,none⟩) l0',hb7.cell (p:=⟨w.heap.size+1,0,none⟩) l1',hb7.cell (p:=⟨w.heap.size+1,1,none⟩) l1',hb7.cell (p:=⟨w.heap.size+1,2,none⟩) l1',hb7.cell (p:=⟨w.heap.size+1,3,none⟩) l1',hb7.cell (p:=⟨w.heap.size+1,4,none⟩) l1'];assumption)) (first
   | (go_at_call 91;refine (HA2.1 _ HM.1.bel.drew).mono ?_;rintro e w6 ⟨rfl,hb6⟩;have HM6:=Sh.mk (HM.1.below (Below.trans (Below.drew (Below.refl _ _)) hb6));have l0':=(HM6.1.at 2 rfl).1.1;have l1':=(HM6.1.at 1 rfl).1.1)
   | (go_at_call 90;refine (HP.1 _ HM6.1.bel).mono ?_;rintro e w9 ⟨vv,rfl,hans,hb7⟩;dsimp only at hans;have hb9:=hb7;have HMP:=Sh.mk (HM6.1.below hb9);obtain ⟨a5,m5,c5,t5,hform,hfin⟩:=fin5 HM6.1 0 rfl hb9 hans;subst hform;have HFIN:=Sh.mk hfin;obtain ⟨q0,qf0⟩:=(HMP.1.at 0 rfl).1.2 0 _ rfl;obtain ⟨q1,qf1⟩:=(HMP.1.at 0 rfl).1.2 1 _ rfl;clear hb9 hans hfin HMP))
  all_goals
   go_wp2_with fail
   refine qac (fun W=>FinT w W (w.heap.size+1+1) (.slice a5 m5 c5) t5 RT) HFIN.1 ?_
   rintro W8 ⟨r0,r1,hans,hbel⟩
   exact bodyPost_ret (v:=.tuple #[.agg #[.slice a5 m5 c5,.int .i64 t5],.int .i64 rc]) (by simp [results,Tryz.results45,go_sem,r0,r1]) rfl ⟨_,by rw [HXX.1],by rw [HXX.1];exact hans,hbel⟩
 have b6:(kind==6)=false:=by simp [h6]
 have HP:=Sh.mk (fun (W:World) (hb:Below w.heap.size w W)=>HWR.1 k trivial trivial trivial HHK.1 W hb)
 have HX9:Sh (R=qbr ⟨nodes,nx⟩ ⟨kind,path,dest,num,who⟩ k gr):=⟨by rw [HX5.1,if_neg (by omega)]⟩
 obtain ⟨RT,rc,hRR⟩:∃ RT rc,qbr ⟨nodes,nx⟩ ⟨kind,path,dest,num,who⟩ k gr=(RT,rc):=⟨_,_,rfl⟩
 rw [hRR] at HP HX9
 have HXX:Sh (R=(RT,rc)):=HX9
 clear h5 h6 hRR
 go_upto_region 21 with fail
 have l0:=(HM.1.at 2 rfl).1.1
 have l1:=(HM.1.at 1 rfl).1.1
 have l2:=(HM.1.at 0 rfl).1.1
 have m1:¬ (w.heap.size+1+1=w.heap.size):=by omega
 have m2:¬ (w.heap.size=w.heap.size+1+1):=by omega
 go_region_held3 (fun w'=>w'.cell? ⟨w.heap.size,0,none⟩=some (.slice a n cap)/\w'.cell? ⟨w.heap.size,1,none⟩=some (.int .i64 nx)/\w'.cell? ⟨w.heap.size+1,0,none⟩=some (.int .i64 kind)/\w'.cell? ⟨w.heap.size+1,1,none⟩=some (.string path)/\w'.cell? ⟨w.heap.size+1,2,none⟩=some (.string dest)/\w'.cell? ⟨w.heap.size+1,3,none⟩=some (.int .i64 num)/\w'.cell? ⟨w.heap.size+1,4,none⟩=some (.int .i64 who)) (first | go_keep | (rw [hb6.cell (p:=⟨w.heap.size,0,none⟩) l0,hb6.cell (p:=⟨w.heap.size,1,none⟩) l0,hb6.cell (p:=⟨w.heap.size+1,0,none⟩) l1,hb6.cell (p:=⟨w.heap.size+1,1,none⟩) l1,hb6.cell (p:=⟨w.heap.size+1,2,none⟩) l1,hb6.cell (p:=⟨w.heap.size+1,3,none⟩) l1,hb6.cell (p:=⟨w.heap.size+1,4,none⟩) l1];assumption) | (rw [hb7.cell (p:=⟨w.heap.size,0,none⟩) l0',hb7.cell (p:=⟨w.heap.size,1,none⟩) l0',hb7.cell (p:=⟨w.heap.size+1,0,none⟩) l1',hb7.cell (p:=⟨w.heap.size+1,1,none⟩) l1',hb7.cell (p:=⟨w.heap.size+1,2,none⟩) l1',hb7.cell (p:=⟨w.heap.size+1,3,none⟩) l1',hb7.cell (p:=⟨w.heap.size+1,4,none⟩) l1'];assumption)) (first
  | (go_at_call 91;refine (HA2.1 _ HM.1.bel.drew).mono ?_;rintro e w6 ⟨rfl,hb6⟩;have HM6:=Sh.mk (HM.1.below (Below.trans (Below.drew (Below.refl _ _)) hb6));have l0':=(HM6.1.at 2 rfl).1.1;have l1':=(HM6.1.at 1 rfl).1.1)
  | (go_at_call 92;refine (HP.1 _ HM6.1.bel).mono ?_;rintro e w9 ⟨vv,rfl,hans,hb7⟩;dsimp only at hans;have hb9:=hb7;have HMP:=Sh.mk (HM6.1.below hb9);obtain ⟨a5,m5,c5,t5,hform,hfin⟩:=fin5 HM6.1 0 rfl hb9 hans;subst hform;have HFIN:=Sh.mk hfin;obtain ⟨q0,qf0⟩:=(HMP.1.at 0 rfl).1.2 0 _ rfl;obtain ⟨q1,qf1⟩:=(HMP.1.at 0 rfl).1.2 1 _ rfl;clear hb9 hans hfin HMP))
 all_goals
  go_wp2_with fail
  refine qac (fun W=>FinT w W (w.heap.size+1+1) (.slice a5 m5 c5) t5 RT) HFIN.1 ?_
  rintro W8 ⟨r0,r1,hans,hbel⟩
  exact bodyPost_ret (v:=.tuple #[.agg #[.slice a5 m5 c5,.int .i64 t5],.int .i64 rc]) (by simp [results,Tryz.results45,go_sem,r0,r1]) rfl ⟨_,by rw [HXX.1],by rw [HXX.1];exact hans,hbel⟩
end Go.Proofs.YtoglebfiobofoaaGreatDoor
