/- Texts of ours, laid one behind the other: LawRcv. -/
import Derived.Test.YtoglebfiobofoaaGreatDoorQrRecP
import Derived.Test.YtoglebfiobofoaaGreatDoorQr5
import Derived.Test.YtoglebfiobofoaaGreatDoorQr6
import Derived.Test.YtoglebfiobofoaaGreatDoorQr12
/- LawRcv: . -/
namespace Go.Proofs.YtoglebfiobofoaaGreatDoor
set_option maxRecDepth 100000
set_option maxHeartbeats 16000000
open Go.RowKit BigFrame
attribute [local go_sem ↓] Go.wp_at_zero Go.wp_at_succ
theorem rc_fit (fs:List FM):NFit (if dOkB fs then (recT fs).1 else ⟨[],0⟩):=by
 split
 ·unfold recT allX;exact all_fit _ (s:=(newX,1)) qip
 ·unfold NFit;decide
theorem recA_len (fs:List FM):(if dOkB fs then recA fs else []).length<=4:=by
 split
 ·unfold recA;rw [List.length_append];split <;> split <;> simp [dropA,newA]
 ·simp
theorem qlb {W W':World} {lo hi:Nat} {row:Option Nat} (hg:W.grownBy W' row) (hr:∀ g,row=some g->lo<=g/\g<hi):Turned W W' lo hi:=by
 cases row with
 | none=>exact Turned.of_below ⟨hg.os,hg.tape,hg.output,hg.size,fun k hk=>hg.block k hk (by simp)⟩ _ _
 | some g=>exact Turned.of_grown hg (hr g rfl).1 (hr g rfl).2
theorem lawRecover (a:Option Addr) (fs:List FM) (cap:Nat) (w:World) (hr:FRow w a fs) (hf:FFit fs) (ht:SumTab w) (hg:ErrT w) :
  Calls Tryz.prog 5 #[.agg #[.slice a fs.length cap]] w fun e w'=>e = .returned (.bool true)/\Below w.heap.size w w':=by
 have HSZ:=Sh.mk (fun (W:World) (hb:Below w.heap.size w W)=>szDisk_any a fs cap 1048576 W (hr.stays hb) hf (by omega) (by omega))
 have HTO:=Sh.mk (fun (hl:fs.length<=1048576) (W:World) (hb:Below w.heap.size w W)=>qkn a fs cap W (hr.stays hb) hf hl)
 have HSP:=Sh.mk (fun (hl:fs.length<=1048576) (hz:fsum fs<=1048576) (W:World) (b:Option Addr) (c:Nat) (h:FRow W b fs)=>specRecover b fs c W h hf hl hz)
 have HIM:=Sh.mk (fun (hl:fs.length<=1048576) (hz:fsum fs<=1048576) (W:World) (b:Option Addr) (c:Nat) (h:FRow W b fs) (hb:Below w.heap.size w W)=>implRecover b fs c W h hf hl hz (ht.stays hb) (hg.stays hb))
 have HEQD:=Sh.mk (fun (hl:fs.length<=1048576) (W:World) (b c:Option Addr) (cb cc:Nat) (h1:FRow W b fs) (h2:FRow W c fs)=>qio b c fs cb cc W h1 h2 hl)
 have HMD:=Sh.mk (fun (hl:fs.length<=1048576) (W:World) (g lo hi:Nat) (h:FRw W (some ⟨g,0,none⟩) (fcs fs) lo hi)=>markDisk_row (some ⟨g,0,none⟩) fs 1 fs.length lo hi W h (by omega) (by omega) (Nat.le_refl _))
 have HF:=Sh.mk (rc_fit fs)
 have hal:=recA_len fs
 unfold qoe RcvPost at HSP HIM
 unfold qpe at HTO
 generalize (if dOkB fs then (recT fs).1 else ⟨[],0⟩)=T at HSP HIM HF
 generalize (if dOkB fs then (recT fs).2 else 0)=gq at HSP HIM
 generalize (if dOkB fs then recA fs else [])=A at HSP HIM hal
 generalize dOkB fs=dk at HSP HIM
 obtain ⟨n,hn⟩:∃ n,n=fs.length:=⟨_,rfl⟩
 obtain ⟨na,hna⟩:∃ n,n=A.length:=⟨_,rfl⟩
 rw [<-hn] at HSZ HTO HSP HIM HEQD HMD ⊢
 rw [<-hna] at HSP HIM hal
 have HNA:=Sh.mk hna
 clear hr hf ht hg hn hna
 have HEA:Sh (∀ (a b:Option Addr) (ca cb:Nat) (W:World),ARow W a A->ARow W b A->Calls Tryz.prog 22 #[.slice a na ca,.slice b na cb] W fun e w'=>e = .returned (.bool true)/\Below W.heap.size W w'):=⟨fun a b ca cb W h1 h2=>by
  have:=eqActS_same a b A ca cb W h1 h2 (by have:=HNA.1;omega)
  rw [<-HNA.1] at this
  exact this⟩
 obtain ⟨mk,hmk⟩:∃ q,q=markK 1 T.nodes:=⟨_,rfl⟩
 have hm1:0<mk:=by rw [hmk];exact (qfv 1 T.nodes).1
 have hm2:mk<=100000000:=by have:=(qfv 1 T.nodes).2;have hh:=HF.1;unfold NFit at hh;rw [hmk];omega
 have HMT:Sh (∀ (W:World) (v:Value) (lo hi:Nat),TAns W v T lo hi->Calls Tryz.prog 25 #[v,.int .i64 1] W fun e w'=>e = .returned (.int .i64 mk)/\THeld w' v 1 T lo hi/\Turned W w' lo hi):=⟨fun W v lo hi h=>by rw [hmk];exact markTree_val 1 h HF.1 (by omega) (by omega)⟩
 have HHT:Sh (∀ (W:World) (v:Value) (lo hi:Nat),THeld W v 1 T lo hi->Calls Tryz.prog 27 #[v,.int .i64 1] W fun e w'=>e = .returned (.int .i64 mk)/\Below W.heap.size W w'):=⟨fun W v lo hi h=>by rw [hmk];exact heldTree_val (k:=1) h HF.1 (by omega) (by omega)⟩
 have HMA:Sh (∀ (W:World) (va:Option Addr) (c lo hi:Nat),FRw W va (acs A) lo hi->na<=c->Calls Tryz.prog 26 #[.slice va na c,.int .i64 mk] W fun e w'=>e = .returned (.int .i64 (mk+4*na:Nat))/\FRw w' va (acs (qdv mk na)) lo hi/\∃ row,W.grownBy w' row/\∀ g,row=some g->lo<=g/\g<hi):=⟨fun W va c lo hi h hc=>by
  have:=markActS_row va A mk c lo hi W h hm1 (by have:=HNA.1;omega) (by have:=HNA.1;omega)
  rw [<-HNA.1] at this
  exact this⟩
 have HHA:Sh (∀ (W:World) (va:Option Addr) (c:Nat),ARow W va (qdv mk na)->Calls Tryz.prog 28 #[.slice va na c,.int .i64 mk] W fun e w'=>e = .returned (.int .i64 (mk+4*na:Nat))/\Below W.heap.size W w'):=⟨fun W va c h=>heldActS_any va mk na c W h hm1 (by omega)⟩
 have HET:=Sh.mk (fun (W:World) (v u:Value) (lo hi lo' hi':Nat) (h:TSee W v T lo hi) (k:TSee W u T lo' hi')=>eqTree_val h k HF.1)
 clear hmk HF HNA
 have hgg:(gq != gq)=false:=by simp
 have hdd:(dk != dk)=false:=by simp
 have HS0:=Sh.mk ((SL.start w).new #[.slice a n cap] 55)
 go_enter Tryz.func5,Tryz.ntmps5
 go_upto_region 2 with fail
 refine qaa (fun W=>SL w W [bxS w.heap.size [.slice a n cap]]) HS0.1 ?_
 intro W0 hS0
 have H:=Sh.mk hS0
 clear hS0 HS0
 have x0:=(H.1.bx 0 rfl 0 _ rfl).1
 go_upto_region 3 with (go_at_call 19;refine (HSZ.1 _ H.1.bel).mono ?_;rintro e w1 ⟨r,rfl,r0,r1,hb⟩;replace H:=Sh.mk (H.1.below hb);clear hb x0)
 by_cases hq:r<0
 ·clear r1
  go_wp2_with fail
  go_ret
  exact ⟨rfl,H.1.bel⟩
 have hr1:=r1 (by omega)
 have hnl:n<=1048576:=by omega
 replace HTO:=Sh.mk (HTO.1 (by omega))
 replace HSP:=Sh.mk (HSP.1 (by omega) (by omega))
 replace HIM:=Sh.mk (HIM.1 (by omega) (by omega))
 replace HEQD:=Sh.mk (HEQD.1 (by omega))
 replace HMD:=Sh.mk (HMD.1 (by omega))
 clear r1 hr1 r0 HSZ
 have x0:=(H.1.bx 0 rfl 0 _ rfl).1
 go_upto_region 6 with (first
  | (go_at_call 20;refine (HTO.1 _ H.1.bel).mono ?_;rintro e w2 ⟨g2,rfl,hg,hw,hb⟩;replace H:=Sh.mk (H.1.below hb);have HW:=Sh.mk hw.crow;clear hb hw hg x0)
  | (go_at_call 12;refine (HSP.1 _ _ _ HW.1).mono ?_;rintro e w3 ⟨vt3,a3,e3,lo3,hi3,l3,h3,rfl,hA,hF,hc,hap,hb⟩;obtain ⟨c3,m3,d3,rfl⟩:=qen hA;obtain ⟨p1,p2,p3,p4,p5⟩:=hap;have HS3:=Sh.mk (H.1.add2 (s:=trS (.agg #[.slice c3 m3 d3,.int .i64 T.next]) T lo3 hi3) (t:=rwS a3 (acs A) l3 h3) hb hA (trS.loc _ _ _ _) p1 p2 hF (rwS.loc _ _ _ _) p3 p4 p5);have hc3:=hc;clear hA hF hc p1 p2 p3 p4 p5 hb H HW))
 obtain ⟨b4,hb4⟩:∃ q,q=w3.heap.size:=⟨_,rfl⟩
 refine qaa (fun W=>SL w W [bxS b4 [.slice c3 m3 d3,.int .i64 T.next],trS (.agg #[.slice c3 m3 d3,.int .i64 T.next]) T lo3 hi3,rwS a3 (acs A) l3 h3,bxS w.heap.size [.slice a n cap]]) (by rw [hb4];exact HS3.1.new _ _) ?_
 intro Wb4 hS
 have H:=Sh.mk hS
 rw [<-hb4]
 clear hS hb4 HS3
 have x0:=(H.1.bx 3 rfl 0 _ rfl).1
 go_upto_region 7 with (go_at_call 20;refine (HTO.1 _ H.1.bel).mono ?_;rintro e w5 ⟨g5,rfl,hg,hw,hb⟩;have HS5:=Sh.mk (H.1.add (s:=rwS (some ⟨g5,0,none⟩) (fcs fs) Wb4.heap.size w5.heap.size) hb (FRw.of_wcells hw hg hw.1) (rwS.loc _ _ _ _) (Nat.le_refl _) (Nat.le_refl _));clear hb hw hg x0 H)
 generalize Wb4.heap.size=lo5 at HS5
 obtain ⟨hi5,hhi5⟩:∃ q,q=w5.heap.size:=⟨_,rfl⟩
 rw [<-hhi5] at HS5
 clear hhi5
 obtain ⟨b8,hb8⟩:∃ q,q=w5.heap.size:=⟨_,rfl⟩
 refine qaa (fun W=>SL w W [bxS b8 [.slice (some ⟨g5,0,none⟩) n n],rwS (some ⟨g5,0,none⟩) (fcs fs) lo5 hi5,bxS b4 [.slice c3 m3 d3,.int .i64 T.next],trS (.agg #[.slice c3 m3 d3,.int .i64 T.next]) T lo3 hi3,rwS a3 (acs A) l3 h3,bxS w.heap.size [.slice a n cap]]) (by rw [hb8];exact HS5.1.new _ _) ?_
 intro Wb8 hS
 have H:=Sh.mk hS
 rw [<-hb8]
 clear hS hb8 HS5
 have x0:=(H.1.bx 0 rfl 0 _ rfl).1
 go_upto_region 8 with ((go_at_call 11;refine (HIM.1 _ _ _ (show FRw _ _ _ _ _ from H.1.at 1 rfl).crow H.1.bel).mono ?_;rintro e w7 ⟨vt7,a7,e7,lo7,hi7,l7,h7,rfl,hA,hF,hc,hap,hb⟩;obtain ⟨c7,m7,d7,rfl⟩:=qen hA;obtain ⟨p1,p2,p3,p4,p5⟩:=hap;have HS7:=Sh.mk (H.1.add2 (s:=trS (.agg #[.slice c7 m7 d7,.int .i64 T.next]) T lo7 hi7) (t:=rwS a7 (acs A) l7 h7) hb hA (trS.loc _ _ _ _) p1 p2 hF (rwS.loc _ _ _ _) p3 p4 p5);have hc7:=hc;clear hA hF hc p1 p2 p3 p4 p5 hb H x0))
 obtain ⟨b9,hb9⟩:∃ q,q=w7.heap.size:=⟨_,rfl⟩
 refine qaa (fun W=>SL w W [bxS b9 [.slice c7 m7 d7,.int .i64 T.next],trS (.agg #[.slice c7 m7 d7,.int .i64 T.next]) T lo7 hi7,rwS a7 (acs A) l7 h7,bxS b8 [.slice (some ⟨g5,0,none⟩) n n],rwS (some ⟨g5,0,none⟩) (fcs fs) lo5 hi5,bxS b4 [.slice c3 m3 d3,.int .i64 T.next],trS (.agg #[.slice c3 m3 d3,.int .i64 T.next]) T lo3 hi3,rwS a3 (acs A) l3 h3,bxS w.heap.size [.slice a n cap]]) (by rw [hb9];exact HS7.1.new _ _) ?_
 intro Wb9 hS
 have H:=Sh.mk hS
 rw [<-hb9]
 clear hS hb9 HS7
 have x0:=(H.1.bx 0 rfl 0 _ rfl).1
 have x1:=(H.1.bx 0 rfl 1 _ rfl).1
 have y0:=(H.1.bx 5 rfl 0 _ rfl).1
 have y1:=(H.1.bx 5 rfl 1 _ rfl).1
 go_upto_region 10 with (first
  | (go_at_call 21;refine (HET.1 _ _ _ _ _ _ _ (TAns.see (H.1.at 1 rfl)) (TAns.see (H.1.at 6 rfl))).mono ?_;rintro e wA10 ⟨rfl,hb⟩;replace H:=Sh.mk (H.1.below hb);clear hb x0 x1 y0 y1)
  | (go_at_call 22;refine (HEA.1 a7 a3 _ _ _ (show FRw _ _ _ _ _ from H.1.at 2 rfl).crow (show FRw _ _ _ _ _ from H.1.at 7 rfl).crow).mono ?_;rintro e wB10 ⟨rfl,hb⟩;replace H:=Sh.mk (H.1.below hb);clear hb))
 have HTX:Sh (∀ x,Later wB10.drew x->SL w x [bxS b9 [.slice c7 m7 d7,.int .i64 T.next],trS (.agg #[.slice c7 m7 d7,.int .i64 T.next]) T lo7 hi7,rwS a7 (acs A) l7 h7,bxS b8 [.slice (some ⟨g5,0,none⟩) n n],rwS (some ⟨g5,0,none⟩) (fcs fs) lo5 hi5,bxS b4 [.slice c3 m3 d3,.int .i64 T.next],trS (.agg #[.slice c3 m3 d3,.int .i64 T.next]) T lo3 hi3,rwS a3 (acs A) l3 h3,bxS w.heap.size [.slice a n cap]]):=⟨fun x hx=>H.1.below (Below.trans (Below.drew (Below.refl _ _)) hx)⟩
 have HLE:Sh (∀ x,Later wB10.drew x->x.cell? ⟨b8,0,none⟩=some (.slice (some ⟨g5,0,none⟩) n n)/\x.cell? ⟨w.heap.size,0,none⟩=some (.slice a n cap)):=⟨fun x hx=>⟨((HTX.1 x hx).bx 3 rfl 0 _ rfl).1,((HTX.1 x hx).bx 8 rfl 0 _ rfl).1⟩⟩
 refine qgm (fun _=>false) (by kernel_rfl) ?_
 refine qjc (i:=0) (v:=?v0) rfl (by kernel_rfl) (by kernel_rfl) (by kernel_rfl) (by kernel_rfl) (fun _ _ _ h=>h) (by rfl) ?hy0 ?rest0
 case hy0=>(intro x hx;obtain ⟨d0,d1⟩:=HLE.1 x hx;go_simp;try with_reducible rfl)
 try simp only [Act.put,qA,qB,qC]
 refine qjc (i:=1) (v:=?v1) rfl (by kernel_rfl) (by kernel_rfl) (by kernel_rfl) (by kernel_rfl) (fun _ _ _ h=>h) (by rfl) ?hy1 ?rest1
 case hy1=>(intro x hx;obtain ⟨d0,d1⟩:=HLE.1 x hx;go_simp;try with_reducible rfl)
 try simp only [Act.put,qA,qB,qC]
 refine qdi (f:=20) (args:=#[.agg #[.slice a n cap]]) (i:=2) (by kernel_rfl) rfl (by rfl) (fun x hx=>by go_simp) (fun x hx=>(HTO.1 x (HTX.1 x hx).bel).mono ?_)
 rintro e y ⟨g6,rfl,hg,hw,hby⟩
 refine ⟨_,rfl,hby,?_⟩
 have HT1:=Sh.mk ((HTX.1 x hx).below hby)
 have HW:=Sh.mk hw.crow
 clear hg hw hby hx
 try simp only [Act.put,qA,qB,qC]
 refine qdi (f:=23) (args:=#[.agg #[.slice (some ⟨g5,0,none⟩) n n],.agg #[.slice (some ⟨g6,0,none⟩) n n]]) (i:=3) (by kernel_rfl) rfl (by rfl) (fun x hx=>by go_simp) (fun x hx=>(HEQD.1 x _ _ _ _ (show FRw _ _ _ _ _ from (HT1.1.below hx).at 4 rfl).crow (HW.1.stays hx)).mono ?_)
 rintro e y2 ⟨rfl,hby⟩
 refine ⟨_,rfl,hby,?_⟩
 have HT2:=Sh.mk ((HT1.1.below hx).below hby)
 clear hby hx HT1 HW
 try simp only [Act.put,qA,qB,qC]
 refine qjc (i:=4) (v:=?v4) rfl (by kernel_rfl) (by kernel_rfl) (by kernel_rfl) (by kernel_rfl) (fun _ _ _ h=>h) (by rfl) ?hy4 ?rest4
 case hy4=>(intro x hx;go_simp;try with_reducible rfl)
 try simp only [Act.put,qA,qB,qC]
 refine wpD_done (by kernel_rfl) ?_ _
 intro W6 hy6
 replace H:=Sh.mk (HT2.1.below hy6)
 clear hy6 HT2 HTX HLE
 have x0:=(H.1.bx 3 rfl 0 _ rfl).1
 go_upto_region 14 with (go_at_call 24;refine (HMD.1 _ _ _ _ (H.1.at 4 rfl)).mono ?_;rintro e w8 ⟨rfl,hF,row,hg8,hr8⟩;replace H:=Sh.mk (H.1.turn 4 rfl (qlb hg8 hr8) hF (rwS.loc _ _ _ _));clear hF hg8 hr8 x0)
 have x0:=(H.1.bx 0 rfl 0 _ rfl).1
 have x1:=(H.1.bx 0 rfl 1 _ rfl).1
 have y0:=(H.1.bx 5 rfl 0 _ rfl).1
 have y1:=(H.1.bx 5 rfl 1 _ rfl).1
 go_upto_region 17 with (first
  | (go_at_call 21;refine (HET.1 _ _ _ _ _ _ _ (TAns.see (H.1.at 1 rfl)) (TAns.see (H.1.at 6 rfl))).mono ?_;rintro e wA17 ⟨rfl,hb⟩;replace H:=Sh.mk (H.1.below hb);clear hb x0 x1 y0 y1)
  | (go_at_call 22;refine (HEA.1 a7 a3 _ _ _ (show FRw _ _ _ _ _ from H.1.at 2 rfl).crow (show FRw _ _ _ _ _ from H.1.at 7 rfl).crow).mono ?_;rintro e wB17 ⟨rfl,hb⟩;replace H:=Sh.mk (H.1.below hb);clear hb))
 have x0:=(H.1.bx 0 rfl 0 _ rfl).1
 have x1:=(H.1.bx 0 rfl 1 _ rfl).1
 go_upto_region 20 with (first
  | (go_at_call 25;refine (HMT.1 _ _ _ _ (H.1.at 1 rfl)).mono ?_;rintro e w9 ⟨rfl,hF,hg9⟩;replace H:=Sh.mk (H.1.turn 1 rfl hg9 hF (thS.loc _ _ _ _));clear hF hg9 x0 x1)
  | (go_at_call 26;refine (HMA.1 _ _ _ _ _ (H.1.at 2 rfl) hc7).mono ?_;rintro e w10 ⟨rfl,hF,row,hg8,hr8⟩;replace H:=Sh.mk (H.1.turn 2 rfl (qlb hg8 hr8) hF (rwS.loc _ _ _ _));clear hF hg8 hr8))
 have x0:=(H.1.bx 0 rfl 0 _ rfl).1
 have x1:=(H.1.bx 0 rfl 1 _ rfl).1
 go_upto_region 28 with (first
  | (go_at_call 27;refine (HHT.1 _ _ _ _ (H.1.at 1 rfl)).mono ?_;rintro e wC1 ⟨rfl,hb⟩;replace H:=Sh.mk (H.1.below hb);clear hb x0 x1)
  | (go_at_call 28;refine (HHA.1 _ _ _ (show FRw _ _ _ _ _ from H.1.at 2 rfl).crow).mono ?_;rintro e wD1 ⟨rfl,hb⟩;replace H:=Sh.mk (H.1.below hb);clear hb))
 have x0:=(H.1.bx 8 rfl 0 _ rfl).1
 go_upto_region 29 with (first
  | (go_at_call 20;refine (HTO.1 _ H.1.bel).mono ?_;rintro e w11 ⟨g11,rfl,hg,hw,hb⟩;replace H:=Sh.mk (H.1.below hb);have HW:=Sh.mk hw.crow;clear hb hw hg x0)
  | (go_at_call 11;refine (HIM.1 _ _ _ HW.1 H.1.bel).mono ?_;rintro e w12 ⟨vt12,a12,e12,lo12,hi12,l12,h12,rfl,hA,hF,hc,hap,hb⟩;obtain ⟨c12,m12,d12,rfl⟩:=qen hA;obtain ⟨p1,p2,p3,p4,p5⟩:=hap;have HS12:=Sh.mk (H.1.add2 (s:=trS (.agg #[.slice c12 m12 d12,.int .i64 T.next]) T lo12 hi12) (t:=rwS a12 (acs A) l12 h12) hb hA (trS.loc _ _ _ _) p1 p2 hF (rwS.loc _ _ _ _) p3 p4 p5);clear hA hF hc p1 p2 p3 p4 p5 hb H HW))
 obtain ⟨b16,hb16⟩:∃ q,q=w12.heap.size:=⟨_,rfl⟩
 refine qaa (fun W=>SL w W [bxS b16 [.slice c12 m12 d12,.int .i64 T.next],trS (.agg #[.slice c12 m12 d12,.int .i64 T.next]) T lo12 hi12,rwS a12 (acs A) l12 h12,bxS b9 [.slice c7 m7 d7,.int .i64 T.next],thS (.agg #[.slice c7 m7 d7,.int .i64 T.next]) T lo7 hi7,rwS a7 (acs (qdv mk na)) l7 h7,bxS b8 [.slice (some ⟨g5,0,none⟩) n n],rwS (some ⟨g5,0,none⟩) (fcs (qeu 1 n)) lo5 hi5,bxS b4 [.slice c3 m3 d3,.int .i64 T.next],trS (.agg #[.slice c3 m3 d3,.int .i64 T.next]) T lo3 hi3,rwS a3 (acs A) l3 h3,bxS w.heap.size [.slice a n cap]]) (by rw [hb16];exact HS12.1.new _ _) ?_
 intro Wb16 hS
 have H:=Sh.mk hS
 rw [<-hb16]
 clear hS hb16 HS12
 have x0:=(H.1.bx 0 rfl 0 _ rfl).1
 have x1:=(H.1.bx 0 rfl 1 _ rfl).1
 have y0:=(H.1.bx 8 rfl 0 _ rfl).1
 have y1:=(H.1.bx 8 rfl 1 _ rfl).1
 go_upto_region 32 with (first
  | (go_at_call 21;refine (HET.1 _ _ _ _ _ _ _ (TAns.see (H.1.at 1 rfl)) (TAns.see (H.1.at 9 rfl))).mono ?_;rintro e wA32 ⟨rfl,hb⟩;replace H:=Sh.mk (H.1.below hb);clear hb x0 x1 y0 y1)
  | (go_at_call 22;refine (HEA.1 a12 a3 _ _ _ (show FRw _ _ _ _ _ from H.1.at 2 rfl).crow (show FRw _ _ _ _ _ from H.1.at 10 rfl).crow).mono ?_;rintro e wB32 ⟨rfl,hb⟩;replace H:=Sh.mk (H.1.below hb);clear hb))
 have x0:=(H.1.bx 3 rfl 0 _ rfl).1
 have x1:=(H.1.bx 3 rfl 1 _ rfl).1
 go_wp2_with (first
  | (go_at_call 27;refine (HHT.1 _ _ _ _ (H.1.at 4 rfl)).mono ?_;rintro e wC2 ⟨rfl,hb⟩;replace H:=Sh.mk (H.1.below hb);clear hb x0 x1)
  | (go_at_call 28;refine (HHA.1 _ _ _ (show FRw _ _ _ _ _ from H.1.at 5 rfl).crow).mono ?_;rintro e wD2 ⟨rfl,hb⟩;replace H:=Sh.mk (H.1.below hb);clear hb))
 go_ret
 exact ⟨rfl,H.1.bel⟩
end Go.Proofs.YtoglebfiobofoaaGreatDoor
