/- Texts of ours, laid one behind the other: StX. -/
import Derived.Test.YtackbhpgdohimaaGreatDoorQk14
/- StX: . -/
namespace Go.Proofs.YtackbhpgdohimaaGreatDoor
set_option maxRecDepth 100000
set_option maxHeartbeats 16000000
open Go.RowKit
attribute [local go_sem ↓] Go.wp_at_zero Go.wp_at_succ
section
attribute [local irreducible] qae stpX refX chT takX findX recV qap qaw
theorem SS.third {w0 W:World} {p q r:Nat × List Value} {L:List (Nat × List Value)} {B:Nat} {a:Option Addr} {n cap:Nat} {rs:List NR} (h:SS w0 W (p::q::r::L) B a n cap rs):SS w0 W (r::p::q::L) B a n cap rs:=h.perm (List.perm_middle (l₁:=[p,q]))
theorem implStep {w:World} {v:Value} {T:TM} {lo hi:Nat} (e:EM) (gr:Int) (h:TSee w v T lo hi) (hf:NFit T) (hI:NInt T.nodes) (he:EFit e):Calls Tryz.prog 25 #[v,ev e,.int .i64 gr] w fun r w'=>qsu (stpX T e gr) w r w':=by
 have h':=h;obtain ⟨a,cap,rs,rfl,hr,hm⟩:=h;obtain ⟨n,hn⟩:∃ n,n=rs.length:=⟨_,rfl⟩;obtain ⟨nx,hnx⟩:∃ nx,nx=T.next:=⟨_,rfl⟩;rw [<-hn,<-hnx] at h' ⊢;have HTO:=zS (fun W (hb:Below w.heap.size w W)=>qgm W _ T lo hi (h'.below hb) hf hI);have HEO:=zS (fun W=>qlo e W he);have HCP:=zS (fun W (hb:Below w.heap.size w W)=>qqc (h'.below hb) hf);have HRO:=zS (fun (hk:1<=e.kind/\e.kind<=10) W=>recordOf_any e W hk he);have HNL:Sh (n=T.nodes.length):=⟨by rw [hn,<-hr,qaf]⟩;have HNX:=zS hnx;have HFE:=zS he;obtain ⟨R,hR⟩:∃ R,R=stpX T e gr:=⟨_,rfl⟩;rw [<-hR];have HR:=zS hR;unfold CpPost at HCP;rw [<-hnx] at HCP;obtain ⟨rv,hrv⟩:∃ rv,rv=recV e:=⟨_,rfl⟩;rw [<-hrv] at HRO;have HRV:=zS hrv;obtain ⟨e9,he9⟩:∃ e9,e9=e:=⟨_,rfl⟩;have HE9:=zS he9;rw [<-he9] at HR HFE HRV;obtain ⟨ok,hok⟩:∃ q,q=qae T:=⟨_,rfl⟩;obtain ⟨eo,heo⟩:∃ q,q=qaq e9:=⟨_,rfl⟩;have HOK:=zS hok;have HEK:=zS heo;rw [he9] at heo;rw [<-hok] at HTO;rw [<-heo] at HEO;clear hf hI he hm hr hn hnx hR h' hrv hok heo;obtain ⟨kind,path,dest,num,who⟩:=e;clear he9;go_enter Tryz.func25,Tryz.ntmps25;go_upto_region 1 with fail;obtain ⟨tb,htb⟩:∃ tb,tb=w.heap.size:=⟨_,rfl⟩;obtain ⟨eb,heb⟩:∃ eb,eb=w.heap.size+1:=⟨_,rfl⟩;obtain ⟨rb,hrb⟩:∃ rb,rb=w.heap.size+1+1:=⟨_,rfl⟩;refine qaa (fun W=>MB w W [(rb,[.slice none 0 0,.int .i64 0]),(eb,[.int .i64 kind,.string path,.string dest,.int .i64 num,.int .i64 who]),(tb,[.slice a n cap,.int .i64 nx])]) (by rw [hrb,heb,htb];exact MB.three w #[.slice a n cap,.int .i64 nx] #[.int .i64 kind,.string path,.string dest,.int .i64 num,.int .i64 who] #[.slice none 0 0,.int .i64 0] 37 47 37) ?_;intro W1 hW1;have HM:=zS hW1;rw [<-hrb,<-heb,<-htb];clear hW1 htb heb hrb;obtain ⟨x0,x1⟩:=bwb2 ((HM.1.at 2 rfl).1);obtain ⟨e0,e1,e2,e3,e4⟩:=bwb5 ((HM.1.at 1 rfl).1)
 obtain ⟨r0,rf0,r1,rf1⟩:=bwc2 ((HM.1.at 0 rfl).1);have HMAY:Sh (∀ b,mayX T e9 gr=b->(ok&&eo&&inI gr 1 99000)=b):=⟨fun b hb=>by rw [HOK.1,HEK.1];exact hb⟩
 have HBAD:Sh ((ok&&eo&&inI gr 1 99000)=false->R=(noT,0,7)):=⟨fun hb=>by
  rw [HR.1];unfold stpX
  rw [if_pos (by unfold mayX;rw [<-HOK.1,<-HEK.1];exact hb)]⟩
 cases ok with
 | false =>
  have HE:Sh (R=(noT,0,7)):=⟨HBAD.1 rfl⟩
  go_wp2_with (first
   | (go_at_call 62;refine (HTO.1 _ HM.1.bel).mono ?_;rintro e w5 ⟨rfl,hb5⟩;replace HM:=zS (HM.1.below hb5);clear hb5 x0 x1 e0 e1 e2 e3 e4 r0 rf0 r1 rf1;have x0:=((HM.1.at 2 rfl).1.2 0 _ rfl).1;have x1:=((HM.1.at 2 rfl).1.2 1 _ rfl).1;have e0:=((HM.1.at 1 rfl).1.2 0 _ rfl).1;have e1:=((HM.1.at 1 rfl).1.2 1 _ rfl).1;have e2:=((HM.1.at 1 rfl).1.2 2 _ rfl).1;have e3:=((HM.1.at 1 rfl).1.2 3 _ rfl).1;have e4:=((HM.1.at 1 rfl).1.2 4 _ rfl).1;obtain ⟨r0,rf0⟩:=(HM.1.at 0 rfl).1.2 0 _ rfl;obtain ⟨r1,rf1⟩:=(HM.1.at 0 rfl).1.2 1 _ rfl)
   | (go_at_call 63;refine (HEO.1 _).mono ?_;rintro e w6 ⟨rfl,hb6⟩;replace HM:=zS (HM.1.below hb6);clear hb6 x0 x1 e0 e1 e2 e3 e4 r0 rf0 r1 rf1;have x0:=((HM.1.at 2 rfl).1.2 0 _ rfl).1;have x1:=((HM.1.at 2 rfl).1.2 1 _ rfl).1;have e0:=((HM.1.at 1 rfl).1.2 0 _ rfl).1;have e1:=((HM.1.at 1 rfl).1.2 1 _ rfl).1;have e2:=((HM.1.at 1 rfl).1.2 2 _ rfl).1;have e3:=((HM.1.at 1 rfl).1.2 3 _ rfl).1;have e4:=((HM.1.at 1 rfl).1.2 4 _ rfl).1;obtain ⟨r0,rf0⟩:=(HM.1.at 0 rfl).1.2 0 _ rfl;obtain ⟨r1,rf1⟩:=(HM.1.at 0 rfl).1.2 1 _ rfl))
  refine qad (fun W9=>MB w W9 ([(rb,[.slice none 0 0,.int .i64 0]),(eb,[.int .i64 kind,.string path,.string dest,.int .i64 num,.int .i64 who]),(tb,[.slice a n cap,.int .i64 nx])])) ((HM.1.put 0 rfl 0 (.slice none 0 0) (by simp)).put 0 rfl 1 (.int .i64 0) (by simp)) ?_;intro W9 hM9;obtain ⟨q0,q1⟩:=bwb2 ((hM9.at 0 rfl).1);exact bodyPost_ret (v:=.tuple #[.agg #[.slice none 0 0,.int .i64 0],.int .i64 0,.int .i64 7]) (by simp [results,Tryz.results25,go_sem,q0,q1]) rfl ⟨_,by rw [HE.1],by rw [HE.1];exact TAns.nothing _ _ _,hM9.bel⟩
 | true =>
 cases eo with
 | false =>
  have HE:Sh (R=(noT,0,7)):=⟨HBAD.1 rfl⟩
  go_wp2_with (first
   | (go_at_call 62;refine (HTO.1 _ HM.1.bel).mono ?_;rintro e w5 ⟨rfl,hb5⟩;replace HM:=zS (HM.1.below hb5);clear hb5 x0 x1 e0 e1 e2 e3 e4 r0 rf0 r1 rf1;have x0:=((HM.1.at 2 rfl).1.2 0 _ rfl).1;have x1:=((HM.1.at 2 rfl).1.2 1 _ rfl).1;have e0:=((HM.1.at 1 rfl).1.2 0 _ rfl).1;have e1:=((HM.1.at 1 rfl).1.2 1 _ rfl).1;have e2:=((HM.1.at 1 rfl).1.2 2 _ rfl).1;have e3:=((HM.1.at 1 rfl).1.2 3 _ rfl).1;have e4:=((HM.1.at 1 rfl).1.2 4 _ rfl).1;obtain ⟨r0,rf0⟩:=(HM.1.at 0 rfl).1.2 0 _ rfl;obtain ⟨r1,rf1⟩:=(HM.1.at 0 rfl).1.2 1 _ rfl)
   | (go_at_call 63;refine (HEO.1 _).mono ?_;rintro e w6 ⟨rfl,hb6⟩;replace HM:=zS (HM.1.below hb6);clear hb6 x0 x1 e0 e1 e2 e3 e4 r0 rf0 r1 rf1;have x0:=((HM.1.at 2 rfl).1.2 0 _ rfl).1;have x1:=((HM.1.at 2 rfl).1.2 1 _ rfl).1;have e0:=((HM.1.at 1 rfl).1.2 0 _ rfl).1;have e1:=((HM.1.at 1 rfl).1.2 1 _ rfl).1;have e2:=((HM.1.at 1 rfl).1.2 2 _ rfl).1;have e3:=((HM.1.at 1 rfl).1.2 3 _ rfl).1;have e4:=((HM.1.at 1 rfl).1.2 4 _ rfl).1;obtain ⟨r0,rf0⟩:=(HM.1.at 0 rfl).1.2 0 _ rfl;obtain ⟨r1,rf1⟩:=(HM.1.at 0 rfl).1.2 1 _ rfl))
  refine qad (fun W9=>MB w W9 ([(rb,[.slice none 0 0,.int .i64 0]),(eb,[.int .i64 kind,.string path,.string dest,.int .i64 num,.int .i64 who]),(tb,[.slice a n cap,.int .i64 nx])])) ((HM.1.put 0 rfl 0 (.slice none 0 0) (by simp)).put 0 rfl 1 (.int .i64 0) (by simp)) ?_;intro W9 hM9;obtain ⟨q0,q1⟩:=bwb2 ((hM9.at 0 rfl).1);exact bodyPost_ret (v:=.tuple #[.agg #[.slice none 0 0,.int .i64 0],.int .i64 0,.int .i64 7]) (by simp [results,Tryz.results25,go_sem,q0,q1]) rfl ⟨_,by rw [HE.1],by rw [HE.1];exact TAns.nothing _ _ _,hM9.bel⟩
 | true =>
 by_cases g1:gr<1
 case pos =>
  have g1':decide (gr<1)=true:=by simp [g1]
  have HE:Sh (R=(noT,0,7)):=⟨HBAD.1 (by unfold inI;simp;omega)⟩
  go_wp2_with (first
   | (go_at_call 62;refine (HTO.1 _ HM.1.bel).mono ?_;rintro e w5 ⟨rfl,hb5⟩;replace HM:=zS (HM.1.below hb5);clear hb5 x0 x1 e0 e1 e2 e3 e4 r0 rf0 r1 rf1;have x0:=((HM.1.at 2 rfl).1.2 0 _ rfl).1;have x1:=((HM.1.at 2 rfl).1.2 1 _ rfl).1;have e0:=((HM.1.at 1 rfl).1.2 0 _ rfl).1;have e1:=((HM.1.at 1 rfl).1.2 1 _ rfl).1;have e2:=((HM.1.at 1 rfl).1.2 2 _ rfl).1;have e3:=((HM.1.at 1 rfl).1.2 3 _ rfl).1;have e4:=((HM.1.at 1 rfl).1.2 4 _ rfl).1;obtain ⟨r0,rf0⟩:=(HM.1.at 0 rfl).1.2 0 _ rfl;obtain ⟨r1,rf1⟩:=(HM.1.at 0 rfl).1.2 1 _ rfl)
   | (go_at_call 63;refine (HEO.1 _).mono ?_;rintro e w6 ⟨rfl,hb6⟩;replace HM:=zS (HM.1.below hb6);clear hb6 x0 x1 e0 e1 e2 e3 e4 r0 rf0 r1 rf1;have x0:=((HM.1.at 2 rfl).1.2 0 _ rfl).1;have x1:=((HM.1.at 2 rfl).1.2 1 _ rfl).1;have e0:=((HM.1.at 1 rfl).1.2 0 _ rfl).1;have e1:=((HM.1.at 1 rfl).1.2 1 _ rfl).1;have e2:=((HM.1.at 1 rfl).1.2 2 _ rfl).1;have e3:=((HM.1.at 1 rfl).1.2 3 _ rfl).1;have e4:=((HM.1.at 1 rfl).1.2 4 _ rfl).1;obtain ⟨r0,rf0⟩:=(HM.1.at 0 rfl).1.2 0 _ rfl;obtain ⟨r1,rf1⟩:=(HM.1.at 0 rfl).1.2 1 _ rfl))
  refine qad (fun W9=>MB w W9 ([(rb,[.slice none 0 0,.int .i64 0]),(eb,[.int .i64 kind,.string path,.string dest,.int .i64 num,.int .i64 who]),(tb,[.slice a n cap,.int .i64 nx])])) ((HM.1.put 0 rfl 0 (.slice none 0 0) (by simp)).put 0 rfl 1 (.int .i64 0) (by simp)) ?_;intro W9 hM9;obtain ⟨q0,q1⟩:=bwb2 ((hM9.at 0 rfl).1);exact bodyPost_ret (v:=.tuple #[.agg #[.slice none 0 0,.int .i64 0],.int .i64 0,.int .i64 7]) (by simp [results,Tryz.results25,go_sem,q0,q1]) rfl ⟨_,by rw [HE.1],by rw [HE.1];exact TAns.nothing _ _ _,hM9.bel⟩
 case neg =>
 have g1':decide (gr<1)=false:=by simp [g1]
 by_cases g2:99000<gr
 case pos =>
  have g2':decide (99000<gr)=true:=by simp [g2]
  have HE:Sh (R=(noT,0,7)):=⟨HBAD.1 (by unfold inI;simp;omega)⟩
  go_wp2_with (first
   | (go_at_call 62;refine (HTO.1 _ HM.1.bel).mono ?_;rintro e w5 ⟨rfl,hb5⟩;replace HM:=zS (HM.1.below hb5);clear hb5 x0 x1 e0 e1 e2 e3 e4 r0 rf0 r1 rf1;have x0:=((HM.1.at 2 rfl).1.2 0 _ rfl).1;have x1:=((HM.1.at 2 rfl).1.2 1 _ rfl).1;have e0:=((HM.1.at 1 rfl).1.2 0 _ rfl).1;have e1:=((HM.1.at 1 rfl).1.2 1 _ rfl).1;have e2:=((HM.1.at 1 rfl).1.2 2 _ rfl).1;have e3:=((HM.1.at 1 rfl).1.2 3 _ rfl).1;have e4:=((HM.1.at 1 rfl).1.2 4 _ rfl).1;obtain ⟨r0,rf0⟩:=(HM.1.at 0 rfl).1.2 0 _ rfl;obtain ⟨r1,rf1⟩:=(HM.1.at 0 rfl).1.2 1 _ rfl)
   | (go_at_call 63;refine (HEO.1 _).mono ?_;rintro e w6 ⟨rfl,hb6⟩;replace HM:=zS (HM.1.below hb6);clear hb6 x0 x1 e0 e1 e2 e3 e4 r0 rf0 r1 rf1;have x0:=((HM.1.at 2 rfl).1.2 0 _ rfl).1;have x1:=((HM.1.at 2 rfl).1.2 1 _ rfl).1;have e0:=((HM.1.at 1 rfl).1.2 0 _ rfl).1;have e1:=((HM.1.at 1 rfl).1.2 1 _ rfl).1;have e2:=((HM.1.at 1 rfl).1.2 2 _ rfl).1;have e3:=((HM.1.at 1 rfl).1.2 3 _ rfl).1;have e4:=((HM.1.at 1 rfl).1.2 4 _ rfl).1;obtain ⟨r0,rf0⟩:=(HM.1.at 0 rfl).1.2 0 _ rfl;obtain ⟨r1,rf1⟩:=(HM.1.at 0 rfl).1.2 1 _ rfl))
  refine qad (fun W9=>MB w W9 ([(rb,[.slice none 0 0,.int .i64 0]),(eb,[.int .i64 kind,.string path,.string dest,.int .i64 num,.int .i64 who]),(tb,[.slice a n cap,.int .i64 nx])])) ((HM.1.put 0 rfl 0 (.slice none 0 0) (by simp)).put 0 rfl 1 (.int .i64 0) (by simp)) ?_;intro W9 hM9;obtain ⟨q0,q1⟩:=bwb2 ((hM9.at 0 rfl).1);exact bodyPost_ret (v:=.tuple #[.agg #[.slice none 0 0,.int .i64 0],.int .i64 0,.int .i64 7]) (by simp [results,Tryz.results25,go_sem,q0,q1]) rfl ⟨_,by rw [HE.1],by rw [HE.1];exact TAns.nothing _ _ _,hM9.bel⟩
 case neg =>
 have g2':decide (99000<gr)=false:=by simp [g2]
 have HT:=zS HOK.1.symm;have HEE:=zS HEK.1.symm;have hkk:=qkw HEE.1;have HRO2:=zS (fun W=>HRO.1 (by have:=HE9.1;rw [this] at hkk;exact hkk) W);have hn14:1<=n/\n<=14:=by have:=qbi HT.1;have:=HNL.1;omega
 have hnxs:0<=nx/\nx<=1000000:=by have:=(qbi HT.1).2.2;have:=qjh HT.1;have:=HNX.1;omega
 have HSTP:Sh (R=if findX T (mustP e9)=0 then (noT,0,1) else if refX T e9 (ndAt T (plc T (findX T (mustP e9)))) ≠ 0 then (noT,0,refX T e9 (ndAt T (plc T (findX T (mustP e9))))) else if qae (chT T e9 (plc T (findX T (mustP e9))) gr)=false then (noT,0,8) else (chT T e9 (plc T (findX T (mustP e9))) gr,takX T e9 (plc T (findX T (mustP e9))),0)):=⟨by
  rw [HR.1];have hmay:¬ mayX T e9 gr=false:=by unfold mayX;rw [HT.1,HEE.1];unfold inI;simp;omega
  unfold stpX
  rw [if_neg hmay]⟩
 clear HOK HEK HMAY HBAD HR HRO hkk
 go_upto_region 3 with (first
  | (go_at_call 62;refine (HTO.1 _ HM.1.bel).mono ?_;rintro e w5 ⟨rfl,hb5⟩;replace HM:=zS (HM.1.below hb5);clear hb5 x0 x1 e0 e1 e2 e3 e4 r0 rf0 r1 rf1;have x0:=((HM.1.at 2 rfl).1.2 0 _ rfl).1;have x1:=((HM.1.at 2 rfl).1.2 1 _ rfl).1;have e0:=((HM.1.at 1 rfl).1.2 0 _ rfl).1;have e1:=((HM.1.at 1 rfl).1.2 1 _ rfl).1;have e2:=((HM.1.at 1 rfl).1.2 2 _ rfl).1;have e3:=((HM.1.at 1 rfl).1.2 3 _ rfl).1;have e4:=((HM.1.at 1 rfl).1.2 4 _ rfl).1;obtain ⟨r0,rf0⟩:=(HM.1.at 0 rfl).1.2 0 _ rfl;obtain ⟨r1,rf1⟩:=(HM.1.at 0 rfl).1.2 1 _ rfl)
  | (go_at_call 63;refine (HEO.1 _).mono ?_;rintro e w6 ⟨rfl,hb6⟩;replace HM:=zS (HM.1.below hb6);clear hb6 x0 x1 e0 e1 e2 e3 e4 r0 rf0 r1 rf1))
 clear HTO HEO g1' g2';go_cut [9,10] from 32 to 35 (fun u9 u10 wq=>∃ (nb B cap2:Nat) (a2:Option Addr) (rs2:List NR),u9=rv/\u10 = .pointer (some ⟨nb,0,none⟩)/\Sh (nds rs2=T.nodes/\SS w wq ((nb,[.slice a2 n cap2,.int .i64 nx])::[(rb,[.slice none 0 0,.int .i64 0]),(eb,[.int .i64 kind,.string path,.string dest,.int .i64 num,.int .i64 who]),(tb,[.slice a n cap,.int .i64 nx])]) B a2 n cap2 rs2))
 case first =>
  have HLE:Sh (∀ x,Later w6.drew x->x.cell? ⟨tb,0,none⟩=some (.slice a n cap)/\x.cell? ⟨tb,1,none⟩=some (.int .i64 nx)/\x.cell? ⟨eb,0,none⟩=some (.int .i64 kind)/\x.cell? ⟨eb,1,none⟩=some (.string path)/\x.cell? ⟨eb,2,none⟩=some (.string dest)/\x.cell? ⟨eb,3,none⟩=some (.int .i64 num)/\x.cell? ⟨eb,4,none⟩=some (.int .i64 who)):=⟨fun x hx=>by
   have M:=HM.1.below (Below.trans zD hx)
   exact ⟨((M.at 2 rfl).1.2 0 _ rfl).1,((M.at 2 rfl).1.2 1 _ rfl).1,((M.at 1 rfl).1.2 0 _ rfl).1,((M.at 1 rfl).1.2 1 _ rfl).1,((M.at 1 rfl).1.2 2 _ rfl).1,((M.at 1 rfl).1.2 3 _ rfl).1,((M.at 1 rfl).1.2 4 _ rfl).1⟩⟩
  have HMX:Sh (∀ x,Later w6.drew x->MB w x [(rb,[.slice none 0 0,.int .i64 0]),(eb,[.int .i64 kind,.string path,.string dest,.int .i64 num,.int .i64 who]),(tb,[.slice a n cap,.int .i64 nx])]):=⟨fun x hx=>HM.1.below (Below.trans zD hx)⟩;refine qas 6 (by kernel_rfl) ?_;refine wpK_v 0 rfl (fun x hx=>by obtain ⟨d0,d1,d2,d3,d4,d5,d6⟩:=HLE.1 x hx;go_simp;try with_reducible rfl) ?_
  try simp only [Act.put,qA,qB,qC]
  refine qem (i:=1) (v:=rv) (f:=64) (args:=#[.agg #[.int .i64 kind,.string path,.string dest,.int .i64 num,.int .i64 who]]) rfl (by kernel_rfl) (by kernel_rfl) (by kernel_rfl) (by kernel_rfl) (fun _ _ _ h=>h) (by rfl) ?hya1 (fun x _=>HRO2.1 x) ?resta1
  case hya1=>(intro x hx;obtain ⟨d0,d1,d2,d3,d4,d5,d6⟩:=HLE.1 x hx;go_simp;try with_reducible rfl)
  try simp only [Act.put,qA,qB,qC]
  refine wpK_v 2 rfl (fun x hx=>by obtain ⟨d0,d1,d2,d3,d4,d5,d6⟩:=HLE.1 x hx;go_simp;try with_reducible rfl) ?_
  try simp only [Act.put,qA,qB,qC]
  refine qkc (f:=58) (args:=#[.agg #[.slice a n cap,.int .i64 nx]]) (C:=#[.slice none 0 0,.int .i64 0]) (t:=37) (i:=3) (j:=4) (by kernel_rfl) rfl rfl (by rfl) (by rfl) (fun x hx=>by go_simp) (fun x hx=>by kernel_rfl) (fun x hx=>(HCP.1 x (HMX.1 x hx).bel).mono ?_) (fun x hx=>?_)
  ·rintro e y ⟨a2,cap2,rs2,rfl,hr2,hnb,hby⟩
   refine ⟨_,rfl,hby,?_⟩;have hl2:rs2.length=n:=by rw [<-qaf,hr2,<-HNL.1]
   rw [hl2] at hnb ⊢;have HY:=zS (SS.of_copy (HMX.1 x hx) hby hnb hl2);have HR2:=zS hr2;generalize x.heap.size=B at HY;clear hx hby hnb hr2 hl2
   try simp only [Act.put,qA,qB,qC]
   refine qpq (i:=4) (by kernel_rfl) rfl (by rfl) (fun x2 hx2=>⟨.pointer (some ⟨x2.heap.size,0,none⟩),x2.alloc (.cells #[.slice none 0 0,.int .i64 0] 37),by kernel_rfl,zB.alloc zL _,?_⟩);have HY2:=zS ((HY.1.below hx2).new #[.slice none 0 0,.int .i64 0] 37);obtain ⟨nb,hnb⟩:∃ nb,nb=x2.heap.size:=⟨_,rfl⟩;rw [<-hnb] at HY2 ⊢;clear hx2 hnb HY
   try simp only [Act.put,qA,qB,qC]
   refine qkb (i:=5) (v:=rv) rfl (by kernel_rfl) (by kernel_rfl) (by kernel_rfl) (by kernel_rfl) (fun _ _ _ h=>h) (by rfl) (fun x9 _=>by go_simp) ?_
   try simp only [Act.put,qA,qB,qC]
   refine qde (by kernel_rfl) ?_;intro x5 hx5;have HY3:=zS (HY2.1.below hx5);obtain ⟨q0,qf0,q1,qf1⟩:=bwc2 ((HY3.1.mb.at 0 rfl).1);refine qex (y:=(x5.setCell ⟨nb,0,none⟩ (.slice a2 n cap2)).setCell ⟨nb,1,none⟩ (.int .i64 nx)) (i:=6) (by kernel_rfl) rfl (by rfl) (by go_simp) (by kernel_rfl) ?_;have HZ:=zS ((HY3.1.setBox 0 rfl 0 (.slice a2 n cap2) (by simp)).setBox 0 rfl 1 (.int .i64 nx) (by simp));clear q0 qf0 q1 qf1 hx5 HY3;simp only [Act.put];go_wp2_with fail;go_meet
   case rel=>exact ⟨nb,B,cap2,a2,rs2,rfl,rfl,⟨HR2.1,HZ.1⟩⟩
  ·have HY:=zS ((HMX.1 x hx).new #[.slice none 0 0,.int .i64 0] 37)
   obtain ⟨nb,hnb⟩:∃ nb,nb=x.heap.size:=⟨_,rfl⟩
   have HLY:Sh (∀ z,Later (x.alloc (.cells #[.slice none 0 0,.int .i64 0] 37)) z->z.cell? ⟨tb,0,none⟩=some (.slice a n cap)/\z.cell? ⟨tb,1,none⟩=some (.int .i64 nx)):=⟨fun z hz=>by
    have:=HLE.1 z (hx.trans (Below.trans ((Below.refl x.heap.size x).alloc zL _) (Below.mono hz (by simp))))
    exact ⟨this.1,this.2.1⟩⟩
   rw [<-hnb] at HY ⊢;generalize x.alloc (.cells #[.slice none 0 0,.int .i64 0] 37)=x2 at HY HLY ⊢;clear hnb hx
   try simp only [Act.put,qA,qB,qC]
   refine qeb (f:=58) (args:=#[.agg #[.slice a n cap,.int .i64 nx]]) (i:=3) (by kernel_rfl) rfl (by rfl) (fun x3 hx3=>by go_simp) (fun x3 hx3=>(HCP.1 x3 (HY.1.below hx3).bel).mono ?_);rintro e y ⟨a2,cap2,rs2,rfl,hr2,hnb,hby⟩;refine ⟨_,rfl,hby,?_⟩;have hl2:rs2.length=n:=by rw [<-qaf,hr2,<-HNL.1]
   rw [hl2] at hnb ⊢;have HY2:=zS (SS.of_copy (HY.1.below hx3) hby hnb hl2);have HR2:=zS hr2;generalize x3.heap.size=B at HY2;clear hx3 hby hnb hr2 hl2 HY HLY
   try simp only [Act.put,qA,qB,qC]
   refine qkb (i:=5) (v:=rv) rfl (by kernel_rfl) (by kernel_rfl) (by kernel_rfl) (by kernel_rfl) (fun _ _ _ h=>h) (by rfl) (fun x9 _=>by go_simp) ?_
   try simp only [Act.put,qA,qB,qC]
   refine qde (by kernel_rfl) ?_;intro x5 hx5;have HY3:=zS (HY2.1.below hx5);obtain ⟨q0,qf0,q1,qf1⟩:=bwc2 ((HY3.1.mb.at 0 rfl).1);refine qex (y:=(x5.setCell ⟨nb,0,none⟩ (.slice a2 n cap2)).setCell ⟨nb,1,none⟩ (.int .i64 nx)) (i:=6) (by kernel_rfl) rfl (by rfl) (by go_simp) (by kernel_rfl) ?_;have HZ:=zS ((HY3.1.setBox 0 rfl 0 (.slice a2 n cap2) (by simp)).setBox 0 rfl 1 (.int .i64 nx) (by simp));clear q0 qf0 q1 qf1 hx5 HY3;simp only [Act.put];go_wp2_with fail;go_meet
   case rel=>exact ⟨nb,B,cap2,a2,rs2,rfl,rfl,⟨HR2.1,HZ.1⟩⟩
 case rest =>
 obtain ⟨nb,B,cap2,a2,rs2,rfl,rfl,hS⟩:=hcut;obtain ⟨hr2,hSS⟩:=hS.1;have HR2:=zS hr2;have HS:=zS hSS;obtain ⟨g,c9,cur,e99,hBg,hgl,hgb⟩:=qfg (by have:=hSS.nb.own;rw [hSS.len] at this;exact this) (by omega);have ha2:a2=some ⟨g,0,none⟩:=(by simpa using e99:a2=some ⟨g,0,none⟩/\cap2=c9).1;subst ha2;clear hS hr2 hSS e99 hBg hgl hgb HCP HRO2 HM;obtain ⟨fm,am,hm1,hm2⟩:=must_any HEE.1;rw [<-HRV.1] at hm1;obtain ⟨mp,hmp⟩:∃ mp,mp=mustP e9:=⟨_,rfl⟩;rw [<-hmp] at hm2 HSTP
 have hmps:mp.size<=1048576:=by
  have h1:=qbf e9.path;have h2:=HFE.1.1;rw [hmp];unfold mustP;split <;> omega
 have HMP:=zS hmp;obtain ⟨fd,hfd⟩:∃ fd,fd=findX T mp:=⟨_,rfl⟩;have HFC:=zS (fun W (hb:Below wc.heap.size wc W)=>((HS.1.see HT.1 HR2.1 HNX.1).below hb).find mp hmps);rw [<-hfd] at HSTP HFC;have HFD:=zS hfd;have HM1:=zS hm1;have HM2:=zS hm2;clear hm1 hm2 hmp hfd hmps;go_upto_region 4 with fail;have HBX:Sh (∀ x,Later wc.drew x->Below wc.heap.size wc x):=⟨fun x hx=>Below.trans zD hx⟩
 have HLE:Sh (∀ x,Later wc.drew x->x.cell? ⟨nb,0,none⟩=some (.slice (some ⟨g,0,none⟩) n cap2)/\x.cell? ⟨nb,1,none⟩=some (.int .i64 nx)):=⟨fun x hx=>by
  have M:=(HS.1.below (HBX.1 x hx)).mb
  exact ⟨((M.at 0 rfl).1.2 0 _ rfl).1,((M.at 0 rfl).1.2 1 _ rfl).1⟩⟩
 refine qas 5 (by kernel_rfl) ?_;refine wpK_v 0 rfl (fun x hx=>by obtain ⟨d0,d1⟩:=HLE.1 x hx;go_simp;try with_reducible rfl) ?_
 try simp only [Act.put,qA,qB,qC]
 refine wpK_v 1 rfl (fun x hx=>by obtain ⟨d0,d1⟩:=HLE.1 x hx;go_simp;try with_reducible rfl) ?_
 try simp only [Act.put,qA,qB,qC]
 refine qem (i:=2) (v:=.string mp) (f:=fm) (args:=am) rfl (by kernel_rfl) (by kernel_rfl) (by kernel_rfl) (by kernel_rfl) (fun _ _ _ h=>h) (by rfl) (fun x _=>(qmg rfl (by kernel_rfl) (by kernel_rfl) x).trans (HM1.1 x)) (fun x _=>HM2.1 x) ?_
 try simp only [Act.put,qA,qB,qC]
 refine qem (i:=3) (v:=.int .i64 fd) (f:=65) (args:=#[.agg #[.slice (some ⟨g,0,none⟩) n cap2,.int .i64 nx],.string mp]) rfl (by kernel_rfl) (by kernel_rfl) (by kernel_rfl) (by kernel_rfl) (fun _ _ _ h=>h) (by rfl) ?hyb3 (fun x hx=>HFC.1 x (HBX.1 x hx)) ?restb3
 case hyb3=>(intro x hx;obtain ⟨d0,d1⟩:=HLE.1 x hx;go_simp;try with_reducible rfl)
 try simp only [Act.put,qA,qB,qC]
 refine qpq (i:=4) (by kernel_rfl) rfl (by rfl) (fun x2 hx2=>⟨.pointer (some ⟨x2.heap.size,0,none⟩),x2.alloc (.cells #[.int .i64 0] 3),by kernel_rfl,zB.alloc zL _,?_⟩);have HY:=zS ((HS.1.below (HBX.1 x2 hx2)).new #[.int .i64 0] 3);obtain ⟨ib,hib⟩:∃ ib,ib=x2.heap.size:=⟨_,rfl⟩;rw [<-hib] at HY ⊢;clear hx2 hib HLE HBX HS HFC HM1 HM2
 try simp only [Act.put,qA,qB,qC]
 refine qde (by kernel_rfl) ?_;intro x5 hx5;have HY3:=zS (HY.1.below hx5);obtain ⟨q0,qf0⟩:=(HY3.1.mb.at 0 rfl).1.2 0 _ rfl;refine qex (y:=x5.setCell ⟨ib,0,none⟩ (.int .i64 fd)) (i:=5) (by kernel_rfl) rfl (by rfl) (by go_simp) (by kernel_rfl) ?_;have HS:=zS (HY3.1.setBox 0 rfl 0 (.int .i64 fd) (by simp));clear q0 qf0 hx5 HY3 HY;simp only [Act.put];go_upto_region 5 with fail;refine qaa (fun W=>SS w W ((ib,[.int .i64 fd])::(nb,[.slice (some ⟨g,0,none⟩) n cap2,.int .i64 nx])::[(rb,[.slice none 0 0,.int .i64 0]),(eb,[.int .i64 kind,.string path,.string dest,.int .i64 num,.int .i64 who]),(tb,[.slice a n cap,.int .i64 nx])]) B (some ⟨g,0,none⟩) n cap2 rs2) HS.1 ?_;intro w7 hw7;clear HS;have HS:=zS hw7;clear hw7;obtain ⟨d0,d1⟩:=bwb2 ((HS.1.mb.at 1 rfl).1);obtain ⟨ix,hix⟩:∃ ix,ix=atI T.nodes fd:=⟨_,rfl⟩
 have HIX:Sh (∀ W,Below w7.heap.size w7 W->Calls Tryz.prog 66 #[.slice (some ⟨g,0,none⟩) n cap2,.func (.func 67) #[] #[.pointer (some ⟨ib,0,none⟩)]] W fun e w'=>e = .returned (.int .i64 ix)/\Below W.heap.size W w'):=⟨fun W hb=>by
  have q:=indexId (cap:=cap2) (fun nn=>nn.id==fd) (.pointer (some ⟨ib,0,none⟩)) (HS.1.below hb).tr HS.1.len.symm (by omega) (fun V hV r _=>test_id r ib fd V (((((HS.1.below hb).below hV).mb.at 0 rfl).1.2 0 _ rfl).1) ((((HS.1.below hb).below hV).mb.at 0 rfl).1.1));rw [HR2.1,idxI_at,<-hix] at q
  exact q⟩
 have HI:=zS hix;clear hix;go_upto_region 6 with (go_at_call 66;refine (HIX.1 _ zB).mono ?_;rintro e w8 ⟨rfl,hb8⟩;replace HS:=zS (HS.1.below hb8);clear hb8 HIX d0 d1);obtain ⟨r0,rf0,r1,rf1⟩:=bwc2 ((HS.1.mb.at 2 rfl).1)
 by_cases hz:fd=0
 case pos =>
  have hi9:ix = -1:=by
   have hh:=qqt HT.1;rw [HI.1,hz];unfold atI;unfold fid at hh;rw [hh]
  have HE:Sh (R=(noT,0,1)):=⟨by rw [HSTP.1,if_pos hz]⟩;clear HSTP HI;subst hi9;go_wp2_with fail;refine qad (fun W9=>MB w W9 ((ib,[.int .i64 fd])::(nb,[.slice (some ⟨g,0,none⟩) n cap2,.int .i64 nx])::[(rb,[.slice none 0 0,.int .i64 0]),(eb,[.int .i64 kind,.string path,.string dest,.int .i64 num,.int .i64 who]),(tb,[.slice a n cap,.int .i64 nx])])) ((HS.1.mb.put 2 rfl 0 (.slice none 0 0) (by simp)).put 2 rfl 1 (.int .i64 0) (by simp)) ?_;intro W9 hM9;obtain ⟨q0,q1⟩:=bwb2 ((hM9.at 2 rfl).1);exact bodyPost_ret (v:=.tuple #[.agg #[.slice none 0 0,.int .i64 0],.int .i64 0,.int .i64 1]) (by simp [results,Tryz.results25,go_sem,q0,q1]) rfl ⟨_,by rw [HE.1],by rw [HE.1];exact TAns.nothing _ _ _,hM9.bel⟩
 case neg =>
 obtain ⟨k,hk⟩:∃ k,k=plc T fd:=⟨_,rfl⟩;have hfa:=qeo HT.1 (p:=mp) (by rw [<-HFD.1];exact hz);rw [<-HFD.1,<-hk] at hfa
 have hi9:ix=(k:Int):=by
  have h1:=qsr HT.1 (p:=mp) (by rw [<-HFD.1];exact hz);rw [<-HFD.1,<-hk] at h1;rw [HI.1];unfold atI;unfold fid at h1;rw [h1]
 have hkn:k<n:=by have:=HNL.1;omega
 have k0:(0:Int)<=(k:Int):=by omega
 have k1:(k:Int)<(n:Int):=by omega
 have k2:decide ((k:Int)<0)=false:=by simp
 have hkr:k<rs2.length:=by rw [HS.1.len];exact hkn
 obtain ⟨rr,hrr⟩:∃ rr,rs2[k]?=some rr:=⟨_,List.getElem?_eq_getElem hkr⟩;have hnd:=(nd_of HR2.1 hrr).1;rw [if_neg hz,<-hk,<-hnd] at HSTP;have HK:=zS hk;have HRR:=zS hrr;have HND:=zS hnd;have HFA:=zS hfa;have HZ:=zS hz;subst hi9;clear hk hrr hnd hfa HI hkr hz;obtain ⟨⟨id,parent,name,dir,schema,quota,ln,pieces,writer⟩,loc,cp⟩:=rr;obtain ⟨pl,hpl⟩:∃ pl,pl=pieces.length:=⟨_,rfl⟩;have c0:=(HS.1.cell HRR.1 0 _ rfl).1;have c1:=(HS.1.cell HRR.1 1 _ rfl).1;have c2:=(HS.1.cell HRR.1 2 _ rfl).1;have c3:=(HS.1.cell HRR.1 3 _ rfl).1;have c4:=(HS.1.cell HRR.1 4 _ rfl).1;have c5:=(HS.1.cell HRR.1 5 _ rfl).1;have c6:=(HS.1.cell HRR.1 6 _ rfl).1;have c7:w8.cell? ⟨g,k*9+7,none⟩=some (.slice loc pl cp):=by rw [hpl];exact (HS.1.cell HRR.1 7 _ rfl).1
 have c8:=(HS.1.cell HRR.1 8 _ rfl).1;rw [Nat.add_zero] at c0;dsimp only at c0 c1 c2 c3 c4 c5 c6 c8;obtain ⟨d0,d1⟩:=bwb2 ((HS.1.mb.at 1 rfl).1);have HPL:=zS hpl;clear hpl;go_upto_region 9 with fail;obtain ⟨bb,hbb⟩:∃ bb,bb=w8.heap.size:=⟨_,rfl⟩;rw [<-hbb];refine qaa (fun W=>SS w W ((bb,[.int .i64 id,.int .i64 parent,.string name,.bool dir,.int .i64 schema,.int .i64 quota,.int .i64 ln,.slice loc pl cp,.int .i64 writer])::(ib,[.int .i64 fd])::(nb,[.slice (some ⟨g,0,none⟩) n cap2,.int .i64 nx])::[(rb,[.slice none 0 0,.int .i64 0]),(eb,[.int .i64 kind,.string path,.string dest,.int .i64 num,.int .i64 who]),(tb,[.slice a n cap,.int .i64 nx])]) B (some ⟨g,0,none⟩) n cap2 rs2) (by rw [hbb];exact HS.1.new #[.int .i64 id,.int .i64 parent,.string name,.bool dir,.int .i64 schema,.int .i64 quota,.int .i64 ln,.slice loc pl cp,.int .i64 writer] 90) ?_;intro w9 hw9;replace HS:=zS hw9;clear hw9 hbb c0 c1 c2 c3 c4 c5 c6 c7 c8 d0 d1 r0 rf0 r1 rf1;obtain ⟨d0,d1⟩:=bwb2 ((HS.1.mb.at 2 rfl).1);obtain ⟨b0,b1,b2,b3,b4,b5,b6,b7,b8⟩:=bwb9 ((HS.1.mb.at 0 rfl).1);obtain ⟨rf,hrf⟩:∃ rf,rf=refX T e9 ⟨id,parent,name,dir,schema,quota,ln,pieces,writer⟩:=⟨_,rfl⟩
 have HREF:Sh (∀ W,Below w9.heap.size w9 W->Calls Tryz.prog 68 #[.agg #[.slice (some ⟨g,0,none⟩) n cap2,.int .i64 nx],.agg #[.int .i64 id,.int .i64 parent,.string name,.bool dir,.int .i64 schema,.int .i64 quota,.int .i64 ln,.slice loc pl cp,.int .i64 writer],u9] W fun q w'=>q = .returned (.int .i64 rf)/\Below W.heap.size W w'):=⟨fun W hb=>by
  have q:=refusal_any ((HS.1.see HT.1 HR2.1 HNX.1).below hb) e9 HFE.1 HEE.1 (⟨⟨id,parent,name,dir,schema,quota,ln,pieces,writer⟩,loc,cp⟩:NR) (by rw [HND.1];exact HFA.1.2.2);rw [<-HRV.1] at q;dsimp only at q;rw [<-hrf] at q;rw [HPL.1]
  exact q⟩
 dsimp only at HSTP;rw [<-hrf] at HSTP;have HRF:=zS hrf;clear hrf;go_upto_region 10 with (go_at_call 68;refine (HREF.1 _ zB).mono ?_;rintro e w10 ⟨rfl,hb10⟩;replace HS:=zS (HS.1.below hb10);clear hb10 HREF d0 d1 b0 b1 b2 b3 b4 b5 b6 b7 b8);obtain ⟨r0,rf0,r1,rf1⟩:=bwc2 ((HS.1.mb.at 3 rfl).1)
 by_cases hz2:rf=0
 case neg =>
  have z1:(rf==0)=false:=by simp [hz2]
  have z2:(rf != 0)=true:=by simp [hz2]
  have z3:decide (rf=0)=false:=by simp [hz2]
  have HE:Sh (R=(noT,0,rf)):=⟨by rw [HSTP.1,if_pos hz2]⟩;clear HSTP;go_wp2_with fail;refine qad (fun W9=>MB w W9 ((bb,[.int .i64 id,.int .i64 parent,.string name,.bool dir,.int .i64 schema,.int .i64 quota,.int .i64 ln,.slice loc pl cp,.int .i64 writer])::(ib,[.int .i64 fd])::(nb,[.slice (some ⟨g,0,none⟩) n cap2,.int .i64 nx])::[(rb,[.slice none 0 0,.int .i64 0]),(eb,[.int .i64 kind,.string path,.string dest,.int .i64 num,.int .i64 who]),(tb,[.slice a n cap,.int .i64 nx])])) ((HS.1.mb.put 3 rfl 0 (.slice none 0 0) (by simp)).put 3 rfl 1 (.int .i64 0) (by simp)) ?_;intro W9 hM9;obtain ⟨q0,q1⟩:=bwb2 ((hM9.at 3 rfl).1);exact bodyPost_ret (v:=.tuple #[.agg #[.slice none 0 0,.int .i64 0],.int .i64 0,.int .i64 rf]) (by simp [results,Tryz.results25,go_sem,q0,q1]) rfl ⟨_,by rw [HE.1],by rw [HE.1];exact TAns.nothing _ _ _,hM9.bel⟩
 case pos =>
 subst hz2;rw [if_neg (by simp)] at HSTP;go_upto_region 12 with fail;clear r0 rf0 r1 rf1;have HBX:Sh (∀ x,Later w10.drew x->Below w10.heap.size w10 x):=⟨fun x hx=>Below.trans zD hx⟩
 have HLE:Sh (∀ x,Later w10.drew x->x.cell? ⟨nb,0,none⟩=some (.slice (some ⟨g,0,none⟩) n cap2)/\x.cell? ⟨nb,1,none⟩=some (.int .i64 nx)):=⟨fun x hx=>by
  have M:=(HS.1.below (HBX.1 x hx)).mb
  exact ⟨((M.at 2 rfl).1.2 0 _ rfl).1,((M.at 2 rfl).1.2 1 _ rfl).1⟩⟩
 have HNIL:Sh (∀ (ρ:Operand->Value) (o:Oper) (r:Operand),o.op = .nilCheck r->ρ r = .func (.method "loop.example/g00197/impl.change") #[u9] #[]->∀ x,(execOp ρ o).run Tryz.prog x = .ok (.value (.func (.method "loop.example/g00197/impl.change") #[u9] #[])) x):=⟨by
  rw [HRV.1]
  exact fun ρ o r h1 h2 x=>run_nil HEE.1 h1 h2 x⟩
 refine qas 9 (by kernel_rfl) ?_;refine wpK_v 0 rfl (fun x hx=>by obtain ⟨d0,d1⟩:=HLE.1 x hx;go_simp;try with_reducible rfl) ?_
 try simp only [Act.put,qA,qB,qC]
 refine wpK_v 1 rfl (fun x hx=>by obtain ⟨d0,d1⟩:=HLE.1 x hx;go_simp;try with_reducible rfl) ?_
 try simp only [Act.put,qA,qB,qC]
 refine wpK_v 2 rfl (fun x hx=>by obtain ⟨d0,d1⟩:=HLE.1 x hx;go_simp;try with_reducible rfl) ?_
 try simp only [Act.put,qA,qB,qC]
 refine wpK_v 3 rfl (fun x hx=>by obtain ⟨d0,d1⟩:=HLE.1 x hx;go_simp;try with_reducible rfl) ?_
 try simp only [Act.put,qA,qB,qC]
 refine wpK_v 4 rfl (fun x hx=>by obtain ⟨d0,d1⟩:=HLE.1 x hx;go_simp;try with_reducible rfl) ?_
 try simp only [Act.put,qA,qB,qC]
 refine wpK_v 5 rfl (fun x hx=>by obtain ⟨d0,d1⟩:=HLE.1 x hx;go_simp;try with_reducible rfl) ?_
 try simp only [Act.put,qA,qB,qC]
 refine wpK_v 6 rfl (fun x hx=>by obtain ⟨d0,d1⟩:=HLE.1 x hx;go_simp;try with_reducible rfl) ?_
 try simp only [Act.put,qA,qB,qC]
 refine qkb (i:=7) (v:=.func (.method "loop.example/g00197/impl.change") #[u9] #[]) rfl (by kernel_rfl) (by kernel_rfl) (by kernel_rfl) (by kernel_rfl) (fun _ _ _ h=>h) (by rfl) (fun x _=>HNIL.1 _ _ _ rfl (by kernel_rfl) x) ?_
 try simp only [Act.put,qA,qB,qC]
 refine wpK_v 8 rfl (fun x hx=>by obtain ⟨d0,d1⟩:=HLE.1 x hx;go_simp;try with_reducible rfl) ?_
 try simp only [Act.put,qA,qB,qC]
 refine qde (by kernel_rfl) ?_;intro x5 hx5;have HS5:=zS ((HS.1.below (HBX.1 x5 hx5)).third);clear HS HLE HBX HNIL hx5;obtain ⟨fc,ac,hc1,hc2⟩:=change_any (gr:=gr) HS5.1 HRR.1 HT.1 HR2.1 HNX.1 HEE.1 (by rw [<-HMP.1,<-HFD.1];exact HZ.1) (by rw [<-HMP.1,<-HFD.1];exact HK.1) (by rw [<-HND.1];exact HRF.1.symm) g1 g2;rw [<-HRV.1] at hc1;obtain ⟨U,hU⟩:∃ U,U=chT T e9 k gr:=⟨_,rfl⟩;rw [<-hU] at hc2 HSTP;have HU:=zS hU;clear hU;refine qms (i:=9) (f:=fc) (args:=ac) (by kernel_rfl) rfl (by rfl) ((qmg rfl (by kernel_rfl) (by kernel_rfl) x5).trans (hc1 x5)) (by kernel_rfl) (hc2.mono ?_);rintro e w11 ⟨rfl,gg,nn,cc,rs3,hs3,hr3⟩;refine ⟨_,rfl,?_⟩;have HS:=zS hs3;have HR3:=zS hr3;clear hs3 hr3 hc1 hc2 HS5;simp only [Act.put];go_upto_region 13 with fail;obtain ⟨d0,d1⟩:=bwb2 ((HS.1.mb.at 0 rfl).1);obtain ⟨un,hun⟩:∃ un,un=U.next:=⟨_,rfl⟩;obtain ⟨ok,hok⟩:∃ ok,ok=qae U:=⟨_,rfl⟩
 have HTO:Sh (∀ W,Below w11.heap.size w11 W->Calls Tryz.prog 62 #[.agg #[.slice (some ⟨gg,0,none⟩) nn cc,.int .i64 un]] W fun e w'=>e = .returned (.bool ok)/\Below W.heap.size W w'):=⟨fun W hb=>by
  have hsm:=ch_small (g:=gr) HT.1 HEE.1 HFA.1.1;rw [<-HU.1] at hsm;have hfit:=small_fit hsm.1 hsm.2;have hs:=(HS.1.below hb);rw [hun,hok]
  exact qgm W _ U _ _ ((hs.nb.ans (w:=w) (nx:=U.next) HR3.1 hs.lo).see) hfit.1 hfit.2⟩
 rw [<-hun] at HS d1;have HUN:=zS hun;rw [<-hok] at HSTP;clear hun hok;obtain ⟨r0,rf0,r1,rf1⟩:=bwc2 ((HS.1.mb.at 3 rfl).1)
 cases ok with
 | false =>
  have HE:Sh (R=(noT,0,8)):=⟨by rw [HSTP.1,if_pos rfl]⟩;clear HSTP;go_wp2_with (go_at_call 62;refine (HTO.1 _ zB).mono ?_;rintro e w12 ⟨rfl,hb12⟩;replace HS:=zS (HS.1.below hb12);clear hb12 HTO d0 d1 r0 rf0 r1 rf1;obtain ⟨r0,rf0⟩:=(HS.1.mb.at 3 rfl).1.2 0 _ rfl;obtain ⟨r1,rf1⟩:=(HS.1.mb.at 3 rfl).1.2 1 _ rfl);refine qad (fun W9=>MB w W9 ((nb,[.slice (some ⟨gg,0,none⟩) nn cc,.int .i64 un])::(bb,[.int .i64 id,.int .i64 parent,.string name,.bool dir,.int .i64 schema,.int .i64 quota,.int .i64 ln,.slice loc pl cp,.int .i64 writer])::(ib,[.int .i64 fd])::[(rb,[.slice none 0 0,.int .i64 0]),(eb,[.int .i64 kind,.string path,.string dest,.int .i64 num,.int .i64 who]),(tb,[.slice a n cap,.int .i64 nx])])) ((HS.1.mb.put 3 rfl 0 (.slice none 0 0) (by simp)).put 3 rfl 1 (.int .i64 0) (by simp)) ?_;intro W9 hM9;obtain ⟨q0,q1⟩:=bwb2 ((hM9.at 3 rfl).1);exact bodyPost_ret (v:=.tuple #[.agg #[.slice none 0 0,.int .i64 0],.int .i64 0,.int .i64 8]) (by simp [results,Tryz.results25,go_sem,q0,q1]) rfl ⟨_,by rw [HE.1],by rw [HE.1];exact TAns.nothing _ _ _,hM9.bel⟩
 | true =>
 rw [if_neg (by simp)] at HSTP;go_upto_region 15 with (go_at_call 62;refine (HTO.1 _ zB).mono ?_;rintro e w12 ⟨rfl,hb12⟩;replace HS:=zS (HS.1.below hb12);clear hb12 HTO d0 d1 r0 rf0 r1 rf1);obtain ⟨tk,htk⟩:∃ tk,tk=takX T e9 k:=⟨_,rfl⟩
 have HTK:Sh (∀ W,Calls Tryz.prog 69 #[.agg #[.int .i64 id,.int .i64 parent,.string name,.bool dir,.int .i64 schema,.int .i64 quota,.int .i64 ln,.slice loc pl cp,.int .i64 writer],u9] W fun q w'=>q = .returned (.int .i64 tk)/\Below W.heap.size W w'):=⟨fun W=>by
  have q:=taken_any T k e9 HEE.1 (⟨⟨id,parent,name,dir,schema,quota,ln,pieces,writer⟩,loc,cp⟩:NR) HND.1 W;rw [<-HRV.1,<-htk] at q;rw [HPL.1]
  exact q⟩
 rw [<-htk] at HSTP;clear htk;have HBX:Sh (∀ x,Later w12.drew x->Below w12.heap.size w12 x):=⟨fun x hx=>Below.trans zD hx⟩
 have HLE:Sh (∀ x,Later w12.drew x->x.cell? ⟨nb,0,none⟩=some (.slice (some ⟨gg,0,none⟩) nn cc)/\x.cell? ⟨nb,1,none⟩=some (.int .i64 un)/\x.cell? ⟨bb,0,none⟩=some (.int .i64 id)/\x.cell? ⟨bb,1,none⟩=some (.int .i64 parent)/\x.cell? ⟨bb,2,none⟩=some (.string name)/\x.cell? ⟨bb,3,none⟩=some (.bool dir)/\x.cell? ⟨bb,4,none⟩=some (.int .i64 schema)/\x.cell? ⟨bb,5,none⟩=some (.int .i64 quota)/\x.cell? ⟨bb,6,none⟩=some (.int .i64 ln)/\x.cell? ⟨bb,7,none⟩=some (.slice loc pl cp)/\x.cell? ⟨bb,8,none⟩=some (.int .i64 writer)):=⟨fun x hx=>by
  have M:=(HS.1.below (HBX.1 x hx)).mb
  exact ⟨((M.at 0 rfl).1.2 0 _ rfl).1,((M.at 0 rfl).1.2 1 _ rfl).1,((M.at 1 rfl).1.2 0 _ rfl).1,((M.at 1 rfl).1.2 1 _ rfl).1,((M.at 1 rfl).1.2 2 _ rfl).1,((M.at 1 rfl).1.2 3 _ rfl).1,((M.at 1 rfl).1.2 4 _ rfl).1,((M.at 1 rfl).1.2 5 _ rfl).1,((M.at 1 rfl).1.2 6 _ rfl).1,((M.at 1 rfl).1.2 7 _ rfl).1,((M.at 1 rfl).1.2 8 _ rfl).1⟩⟩
 refine qas 4 (by kernel_rfl) ?_;refine wpK_v 0 rfl (fun x hx=>by obtain ⟨d0,d1,b0,b1,b2,b3,b4,b5,b6,b7,b8⟩:=HLE.1 x hx;go_simp;try with_reducible rfl) ?_
 try simp only [Act.put,qA,qB,qC]
 refine wpK_v 1 rfl (fun x hx=>by obtain ⟨d0,d1,b0,b1,b2,b3,b4,b5,b6,b7,b8⟩:=HLE.1 x hx;go_simp;try with_reducible rfl) ?_
 try simp only [Act.put,qA,qB,qC]
 refine wpK_v 2 rfl (fun x hx=>by obtain ⟨d0,d1,b0,b1,b2,b3,b4,b5,b6,b7,b8⟩:=HLE.1 x hx;go_simp;try with_reducible rfl) ?_
 try simp only [Act.put,qA,qB,qC]
 refine qem (i:=3) (v:=.int .i64 tk) (f:=69) (args:=#[.agg #[.int .i64 id,.int .i64 parent,.string name,.bool dir,.int .i64 schema,.int .i64 quota,.int .i64 ln,.slice loc pl cp,.int .i64 writer],u9]) rfl (by kernel_rfl) (by kernel_rfl) (by kernel_rfl) (by kernel_rfl) (fun _ _ _ h=>h) (by rfl) ?hye3 (fun x _=>HTK.1 x) ?reste3
 case hye3=>(intro x hx;obtain ⟨d0,d1,b0,b1,b2,b3,b4,b5,b6,b7,b8⟩:=HLE.1 x hx;go_simp;try with_reducible rfl)
 try simp only [Act.put,qA,qB,qC]
 refine qde (by kernel_rfl) ?_;intro x5 hx5;have HS5:=zS (HS.1.below (HBX.1 x5 hx5));obtain ⟨r0,rf0,r1,rf1⟩:=bwc2 ((HS5.1.mb.at 3 rfl).1);clear HS HLE HBX HTK hx5;refine qdq (y:=(x5.setCell ⟨rb,0,none⟩ (.slice (some ⟨gg,0,none⟩) nn cc)).setCell ⟨rb,1,none⟩ (.int .i64 un)) (i:=4) (by kernel_rfl) rfl (by rfl) (by go_simp) ?_;have HS:=zS ((HS5.1.setBox 3 rfl 0 (.slice (some ⟨gg,0,none⟩) nn cc) (by simp)).setBox 3 rfl 1 (.int .i64 un) (by simp));clear HS5 r0 rf0 r1 rf1;simp only [Act.put];refine qpr (i:=5) (v:=.int .i64 tk) rfl (by kernel_rfl) (by kernel_rfl) (by kernel_rfl) (fun _ _ _ h=>h) (by rfl) (fun x=>by go_simp) ?_
 try simp only [Act.put,qA,qB,qC]
 refine qpr (i:=6) (v:=.int .i64 0) rfl (by kernel_rfl) (by kernel_rfl) (by kernel_rfl) (fun _ _ _ h=>h) (by rfl) (fun x=>by go_simp) ?_
 try simp only [Act.put,qA,qB,qC]
 refine qdr (by kernel_rfl) ?_ _;obtain ⟨q0,q1⟩:=bwb2 ((HS.1.mb.at 3 rfl).1)
 have HAN:Sh (TAns ((x5.setCell ⟨rb,0,none⟩ (.slice (some ⟨gg,0,none⟩) nn cc)).setCell ⟨rb,1,none⟩ (.int .i64 un)) (.agg #[.slice (some ⟨gg,0,none⟩) nn cc,.int .i64 un]) U w.heap.size ((x5.setCell ⟨rb,0,none⟩ (.slice (some ⟨gg,0,none⟩) nn cc)).setCell ⟨rb,1,none⟩ (.int .i64 un)).heap.size/\Below w.heap.size w ((x5.setCell ⟨rb,0,none⟩ (.slice (some ⟨gg,0,none⟩) nn cc)).setCell ⟨rb,1,none⟩ (.int .i64 un))):=⟨by
  have q:=HS.1.nb.ans (w:=w) (nx:=un) HR3.1 HS.1.lo;refine ⟨?_,HS.1.mb.bel⟩;rw [HUN.1] at q ⊢
  exact q⟩
 generalize (x5.setCell ⟨rb,0,none⟩ (.slice (some ⟨gg,0,none⟩) nn cc)).setCell ⟨rb,1,none⟩ (.int .i64 un)=w13 at HAN q0 q1 ⊢;go_wp2_with fail;exact bodyPost_ret (v:=.tuple #[.agg #[.slice (some ⟨gg,0,none⟩) nn cc,.int .i64 un],.int .i64 tk,.int .i64 0]) (by simp [results,Tryz.results25,go_sem,q0,q1]) rfl ⟨_,by rw [HSTP.1],by rw [HSTP.1];exact HAN.1.1,HAN.1.2⟩
end
end Go.Proofs.YtackbhpgdohimaaGreatDoor
