/- Texts of ours, laid one behind the other: LawCm. -/
import Derived.Test.YtackbhpgdohimaaGreatDoorQk3
import Derived.Test.YtackbhpgdohimaaGreatDoorQk4
/- LawCm: . -/
namespace Go.Proofs.YtackbhpgdohimaaGreatDoor
set_option maxRecDepth 100000
set_option maxHeartbeats 16000000
open Go.RowKit
attribute [local go_sem ↓] Go.wp_at_zero Go.wp_at_succ
section
open BigFrame
attribute [local irreducible] markK
set_option maxRecDepth 1000000 in
theorem lawCommit {w:World} {T XT:TM} {D XD:List FM} {L:List LsM} {ca da la:Option Addr} {cm cc dc lc lo hi dn ln xn:Nat} {nx tx gr xg now rc:Int} {up:Bool} (e:EM) (h:SvAt w ⟨up,T,gr,D,L,now⟩ (.agg #[.slice ca cm cc,.int .i64 nx]) da la lo hi) (hdn:dn=D.length) (hln:ln=L.length) (hnx:nx=T.next) (hxn:xn=XD.length) (hn:NOk T.nodes) (hf:FFit D) (hs:LsFits L) (he:EdFit e) (htab:SumTab w)
  (hfx:NFit T->dn<=1048576->NFit XT/\xn<=1048576)
  (hsp:NFit T->dn<=1048576->ln<=1048576->EFit e->∀ (W:World) (ca da la:Option Addr) (cm cc dc lc lo hi:Nat),SvAt W ⟨up,T,gr,D,L,now⟩ (.agg #[.slice ca cm cc,.int .i64 nx]) da la lo hi->Calls Tryz.prog 6 #[svV up ca cm cc nx gr da dn dc la ln lc now,ev e] W fun r w'=>SvOut XT XD L tx (fun ca cm cc da dc la lc=>.tuple #[svV up ca cm cc tx xg da xn dc la ln lc now,.int .i64 rc]) W r w')
  (him:NFit T->dn<=1048576->ln<=1048576->EFit e->fsum D<=1048576->(∀ u ∈ L,u.path.size<=1048576)->∀ (W:World) (ca da la:Option Addr) (cm cc dc lc lo hi:Nat),SumTab W->SvAt W ⟨up,T,gr,D,L,now⟩ (.agg #[.slice ca cm cc,.int .i64 nx]) da la lo hi->Calls Tryz.prog 9 #[svV up ca cm cc nx gr da dn dc la ln lc now,ev e] W fun r w'=>SvOut XT XD L tx (fun ca cm cc da dc la lc=>.tuple #[svV up ca cm cc tx xg da xn dc la ln lc now,.int .i64 rc]) W r w') :
  Calls Tryz.prog 3 #[svV up ca cm cc nx gr da dn dc la ln lc now,ev e] w fun r w'=>r = .returned (.bool true)/\Below w.heap.size w w':=by
 have HZS:=zS (fun (W:World) (hb:Below w.heap.size w W)=>szServer_any (up:=up) (gr:=gr) (now:=now) (dc:=dc) (lc:=lc) 1048576 (h.below hb) hdn hln hn hf hs (by omega) (by omega));have HZE:=zS (fun W left h0 h1=>szEdit_any e left W h0 h1 he);have HTE:=zS (fun W=>toEdit_any e W);have HTS:=zS (fun (g:SvFit ⟨up,T,gr,D,L,now⟩) (W:World) (hb:Below w.heap.size w W)=>toServer_sl (up:=up) (gr:=gr) (now:=now) (dc:=dc) (lc:=lc) (h.below hb) hdn hln hnx g hf);have HLM:Sh (lsSum L<=1048576->∀ l ∈ L,l.path.size<=1048576):=⟨fun k l m=>Nat.le_trans (lsSum_mem m) k⟩;have HFT:Sh (T.nodes.length+nsum T.nodes<=1048576->D.length<=1048576->L.length<=1048576->SvFit ⟨up,T,gr,D,L,now⟩):=⟨fun a b c=>⟨a,b,c⟩⟩;have HEX:=zS (fun (g:SvFit ⟨up,XT,xg,XD,L,now⟩) (W:World) (c1 c2 d1 d2 l1 l2:Option Addr) (m1 m2 e1 e2 k1 k2 n1 n2 x1 x2 y1 y2:Nat) (k:(svS XT XD L c1 m1 e1 tx d1 l1 x1 y1).p W) (j:(svS XT XD L c2 m2 e2 tx d2 l2 x2 y2).p W)=>(svS.at9 k up xg now).elim fun _ k=>k.elim fun _ k=>(svS.at9 j up xg now).elim fun _ j=>j.elim fun _ j=>qic (up:=up) (gr:=xg) (now:=now) (dc:=k1) (dc':=k2) (lc:=n1) (lc':=n2) k j g hxn hln);have HEI:=zS (fun (g:SvFit ⟨up,T,gr,D,L,now⟩) (W:World) (c1 c2 d1 d2 l1 l2:Option Addr) (m1 m2 e1 e2 k1 k2 n1 n2 x1 x2 y1 y2:Nat) (k:(svS T D L c1 m1 e1 nx d1 l1 x1 y1).p W) (j:(svS T D L c2 m2 e2 nx d2 l2 x2 y2).p W)=>(svS.at9 k up gr now).elim fun _ k=>k.elim fun _ k=>(svS.at9 j up gr now).elim fun _ j=>j.elim fun _ j=>qic (up:=up) (gr:=gr) (now:=now) (dc:=k1) (dc':=k2) (lc:=n1) (lc':=n2) k j g hdn hln);have HMI:=zS (fun (hft:NFit T) (hd:dn<=1048576) (hl:ln<=1048576) (W:World) (c1 d1 l1:Option Addr) (m1 e1 k1 n1 x1 y1:Nat) (k:(svS T D L c1 m1 e1 nx d1 l1 x1 y1).p W) (hdc:dn<=k1) (hlc:ln<=n1) (hlo:y1<=W.heap.size)=>qid (up:=up) (gr:=gr) (now:=now) k hdn hln hft hd hl hdc hlc hlo)
 have HMX:=zS (fun (hft:NFit XT) (hd:xn<=1048576) (hl:ln<=1048576) (W:World) (c1 d1 l1:Option Addr) (m1 e1 k1 n1 x1 y1:Nat) (k:(svS XT XD L c1 m1 e1 tx d1 l1 x1 y1).p W) (hdc:xn<=k1) (hlc:ln<=n1) (hlo:y1<=W.heap.size)=>qid (up:=up) (gr:=xg) (now:=now) k hxn hln hft hd hl hdc hlc hlo);have HHX:=zS (fun (hft:NFit XT) (hd:xn<=1048576) (hl:ln<=1048576) (W:World) (c1 d1 l1:Option Addr) (m1 e1 k1 n1 x1 y1:Nat) (k:(shS XT xn ln c1 m1 e1 tx d1 l1 x1 y1).p W)=>heldServer_sv (up:=up) (gr:=xg) (now:=now) (dc:=k1) (lc:=n1) k hft hd hl);have HSP:=zS hsp;have HIM:=zS (fun a b c d f g (W:World) (ca da la:Option Addr) (cm cc dc lc lo hi:Nat) (hb:Below w.heap.size w W)=>him a b c d f g W ca da la cm cc dc lc lo hi (htab.stays hb));have HFX:=zS hfx;unfold SvTs at HTS;unfold SvOut at HSP HIM;unfold SzT at HZS;dsimp only at HZS HTS;obtain ⟨n1,hn1⟩:∃ x,x=T.nodes.length+nsum T.nodes:=⟨_,rfl⟩;obtain ⟨n2,hn2⟩:∃ x,x=fsum D:=⟨_,rfl⟩;obtain ⟨n3,hn3⟩:∃ x,x=lsSum L:=⟨_,rfl⟩;rw [<-hn1,<-hn2,<-hn3,<-hdn,<-hln] at HZS;rw [<-hn1,<-hdn,<-hln] at HFT;rw [<-hn2] at HIM;rw [<-hn3] at HLM;have HN1:=zS hn1;have HXN:=zS hxn;have HLN:=zS hln;clear h hdn hln hnx hxn hn hf hs he htab hfx hsp him hn1 hn2 hn3;obtain ⟨kind,path,dest,num,who⟩:=e;dsimp only at *;have hcc:(rc != rc)=false:=by simp
 have HS:=zS (((SL.start w).new #[.bool up,.slice ca cm cc,.int .i64 nx,.int .i64 gr,.slice da dn dc,.slice la ln lc,.int .i64 now] 30).new #[.int .i64 kind,.string path,.string dest,.int .i64 num,.int .i64 who] 32);simp only [World.size_alloc] at HS;obtain ⟨tb,htb⟩:∃ q,q=w.heap.size:=⟨_,rfl⟩;obtain ⟨eb,heb⟩:∃ q,q=w.heap.size+1:=⟨_,rfl⟩;rw [<-heb,<-htb] at HS;go_enter Tryz.func3,Tryz.ntmps3;go_upto_region 2 with fail;rw [<-heb,<-htb];refine qaa (SL.p w _) HS.1 ?_;intro W0 hS0;have H:=zS hS0;clear hS0 HS htb heb;obtain ⟨tb_0,tb_1,tb_2,tb_3,tb_4,tb_5,tb_6⟩:=H.1.b7 1 rfl;go_upto_region 3 with (go_at_call 4;refine (HZS.1 _ H.1.bel).mono ?_;rintro e w1 ⟨r0,rfl,r00,q1,hb⟩;replace H:=zS (H.1.below hb);clear hb tb_0 tb_1 tb_2 tb_3 tb_4 tb_5 tb_6 HZS)
 by_cases r0n:r0<0
 case pos =>
  clear q1 r00;go_wp2_with fail;go_ret;exact ⟨rfl,H.1.bel⟩
 have hq1:=q1 (by omega);have HF:=zS (HFT.1 (by omega) (by omega) (by omega));have HD1:Sh (dn<=1048576):=⟨by omega⟩;have HL1:Sh (ln<=1048576):=⟨by omega⟩;have HLP:=zS (HLM.1 (by omega));have HN2:Sh (n2<=1048576):=⟨by omega⟩;have r01:r0<=1048576:=by omega
 clear q1 hq1 r00 HFT HLM;obtain ⟨eb_0,eb_1,eb_2,eb_3,eb_4⟩:=H.1.b5 0 rfl;go_upto_region 6 with (go_at_call 5;refine (HZE.1 _ r0 (by omega) r01).mono ?_;rintro e w2 ⟨⟨q0,rfl,q00,q1⟩,hb⟩;replace H:=zS (H.1.below hb);clear hb eb_0 eb_1 eb_2 eb_3 eb_4)
 by_cases q0n:q0<0
 case pos =>
  clear q1 q00;go_wp2_with fail;go_ret;exact ⟨rfl,H.1.bel⟩
 have hq1:=q1 (by omega);have HEF:Sh (EFit ⟨kind,path,dest,num,who⟩):=⟨⟨by dsimp only at hq1 ⊢;omega,by dsimp only at hq1 ⊢;omega⟩⟩;clear q1 hq1 q00 HZE;replace HTS:=zS (HTS.1 HF.1);replace HSP:=zS (HSP.1 HF.1.tr HD1.1 HL1.1 HEF.1);replace HIM:=zS (HIM.1 HF.1.tr HD1.1 HL1.1 HEF.1 HN2.1 HLP.1);have HXF:=zS (HFX.1 HF.1.tr HD1.1);have HXS:Sh (SvFit ⟨up,XT,xg,XD,L,now⟩):=⟨⟨HXF.1.1,by rw [<-HXN.1];exact HXF.1.2,by rw [<-HLN.1];exact HL1.1⟩⟩;replace HEX:=zS (HEX.1 HXS.1);replace HEI:=zS (HEI.1 HF.1);replace HMI:=zS (HMI.1 HF.1.tr HD1.1 HL1.1);replace HMX:=zS (HMX.1 HXF.1.1 HXF.1.2 HL1.1);replace HHX:=zS (HHX.1 HXF.1.1 HXF.1.2 HL1.1);go_upto_region 8 with fail;clear r0n q0n r01 HFX HLP HN2 HEF HXF HXS;obtain ⟨B,hB,hH⟩:=H.1.nm;replace H:=zS hH;clear hH;go_cut [6,7] from 26 to 33 (fun u8 u9 wq=>∃ (b6:Nat) (ca6 da6 la6:Option Addr) (cm6 cc6 dc6 lc6 lo6 hi6:Nat),u8 = .pointer (some ⟨b6,0,none⟩)/\u9 = .int .i64 rc/\Sh (xn<=dc6/\ln<=lc6)/\Sh (SL w wq (bxS b6 (svC up ca6 cm6 cc6 tx xg da6 xn dc6 la6 ln lc6 now)::svS XT XD L ca6 cm6 cc6 tx da6 la6 lo6 hi6::B)))
 case first =>
  subst hB;have HTX:=zS (fun (x:World) (hx:Later w2.drew x)=>H.1.later hx);refine qds (fun j=>decide (j=5\/j=6\/j=7\/8<j)) (by kernel_rfl) ?_;refine wpD_v 0 rfl (fun x hx=>by obtain ⟨d0,d1,d2,d3,d4,d5,d6⟩:=(HTX.1 x hx).b7 1 rfl;go_simp;try with_reducible rfl) ?_
  try simp only [Act.put,qA,qB,qC]
  refine wpD_v 2 rfl (fun x hx=>by obtain ⟨d0,d1,d2,d3,d4⟩:=(HTX.1 x hx).b5 0 rfl;go_simp;try with_reducible rfl) ?_
  try simp only [Act.put,qA,qB,qC]
  refine qec (C:=svZ) (t:=43) (i:=1) (j:=8) (by kernel_rfl) rfl rfl (by rfl) (by rfl) (fun x hx=>by go_simp) (fun x hx=>by kernel_rfl) (fun x hx=>(HTS.1 _ (HTX.1 x hx).bel).mono ?_) (fun x hx=>?_)
  ·rintro e y ⟨ca6a,da6a,la6a,cm6a,cc6a,dc6a,lc6a,l1,h1,l2,h2,l3,h3,rfl,hA,hdc9,hlc9⟩
   refine ⟨_,rfl,hA.bel,?_⟩;obtain ⟨lo6a,hlo6a⟩:∃ q,q=x.heap.size:=⟨_,rfl⟩;obtain ⟨hi6a,hhi6a⟩:∃ q,q=y.heap.size:=⟨_,rfl⟩;have T1:=zS ((HTX.1 x hx).sv hA);rw [<-hlo6a,<-hhi6a] at T1;clear hA hdc9 hlc9 hx hlo6a hhi6a
   try simp only [Act.put,qA,qB,qC]
   refine wpD_c 3 rfl (fun x _=>HTE.1 x) (fun x hx=>by go_simp;try with_reducible rfl) ?_
   try simp only [Act.put,qA,qB,qC]
   refine qec (C:=svZ) (t:=43) (i:=4) (j:=8) (by kernel_rfl) rfl rfl (by rfl) (by rfl) (fun x hx=>by go_simp) (fun x hx=>by kernel_rfl) (fun x hx=>((Exists.elim (svS.at9 ((T1.1.below hx).at 0 rfl) up gr now) fun lo hq=>hq.elim fun hi q=>HSP.1 _ _ _ _ _ _ dc6a lc6a lo hi q)).mono ?_) (fun x hx=>?_)
   ·rintro e y2 ⟨ca6,cm6,cc6,da6,dc6,la6,lc6,l1,h1,l2,h2,l3,h3,rfl,hin⟩
    refine ⟨_,rfl,hin.sl.bel,?_⟩;obtain ⟨lo6,hlo9⟩:∃ q,q=x.heap.size:=⟨_,rfl⟩;obtain ⟨hi6,hhi9⟩:∃ q,q=y2.heap.size:=⟨_,rfl⟩;have HY:=zS ((T1.1.below hx).sv hin.sl);have HC9:Sh (xn<=dc6/\ln<=lc6):=⟨by rw [HXN.1];exact hin.d,by rw [HLN.1];exact hin.l⟩;rw [<-hlo9,<-hhi9] at HY;clear hin hlo9 hhi9;clear hx
    try simp only [Act.put,qA,qB,qC]
    refine wpD_p 5 rfl (fun x=>by go_simp;try with_reducible rfl) ?_
    try simp only [Act.put,qA,qB,qC]
    refine wpD_p 6 rfl (fun x=>by go_simp;try with_reducible rfl) ?_
    try simp only [Act.put,qA,qB,qC]
    refine wpD_p 7 rfl (fun x=>by go_simp;try with_reducible rfl) ?_
    try simp only [Act.put,qA,qB,qC]
    refine qps (i:=8) (by kernel_rfl) rfl (by rfl) (fun x2 hx2=>⟨.pointer (some ⟨x2.heap.size,0,none⟩),x2.alloc (.cells svZ 43),by kernel_rfl,zB.alloc zL _,?_⟩);have HY2:=zS ((HY.1.below hx2).new svZ 43);obtain ⟨nb,hnb⟩:∃ nb,nb=x2.heap.size:=⟨_,rfl⟩;rw [<-hnb] at HY2 ⊢;clear hx2 hnb HY
    try simp only [Act.put,qA,qB,qC]
    replace HY2:=zS HY2.1.drop3;refine qen (by kernel_rfl) ?_;intro x5 hx5;have HY3:=zS (HY2.1.below hx5);obtain ⟨⟨q0,q1,q2,q3,q4,q5,q6⟩,qf0,qf1,qf2,qf3,qf4,qf5,qf6⟩:=HY3.1.c7 0 rfl;refine qdq (y:=svT x5 nb up ca6 cm6 cc6 tx xg da6 xn dc6 la6 ln lc6 now) (i:=9) (by kernel_rfl) rfl (by rfl) (by go_simp) ?_;have HZ:=zS (HY3.1.svT up ca6 cm6 cc6 tx xg da6 xn dc6 la6 ln lc6 now);clear q0 qf0 q1 qf1 q2 qf2 q3 qf3 q4 qf4 q5 qf5 q6 qf6 hx5 HY2 HY3;simp only [Act.put];refine wpA_v 10 rfl (fun x=>by go_simp;try with_reducible rfl) ?_
    try simp only [Act.put,qA,qB,qC]
    refine qdr (by kernel_rfl) ?_ _;go_wp2_with fail;go_meet
    case rel=>exact ⟨nb,ca6,da6,la6,cm6,cc6,dc6,lc6,lo6,hi6,rfl,rfl,HC9,⟨HZ.1⟩⟩
   ·have HW:=zS ((T1.1.below hx).new svZ 43)
    obtain ⟨nb,hnb⟩:∃ nb,nb=x.heap.size:=⟨_,rfl⟩;rw [<-hnb] at HW ⊢;generalize x.alloc (.cells svZ 43)=xx at HW ⊢;clear hnb hx
    try simp only [Act.put,qA,qB,qC]
    refine qbx (i:=4) (by kernel_rfl) rfl (by rfl) (fun x hx=>by go_simp) (fun x hx=>((Exists.elim (svS.at9 ((HW.1.below hx).at 1 rfl) up gr now) fun lo hq=>hq.elim fun hi q=>HSP.1 _ _ _ _ _ _ dc6a lc6a lo hi q)).mono ?_);rintro e y2 ⟨ca6,cm6,cc6,da6,dc6,la6,lc6,l1,h1,l2,h2,l3,h3,rfl,hin⟩;refine ⟨_,rfl,hin.sl.bel,?_⟩;obtain ⟨lo6,hlo9⟩:∃ q,q=x.heap.size:=⟨_,rfl⟩;obtain ⟨hi6,hhi9⟩:∃ q,q=y2.heap.size:=⟨_,rfl⟩;have HY:=zS ((HW.1.below hx).sv hin.sl);have HC9:Sh (xn<=dc6/\ln<=lc6):=⟨by rw [HXN.1];exact hin.d,by rw [HLN.1];exact hin.l⟩;rw [<-hlo9,<-hhi9] at HY;clear hin hlo9 hhi9;clear hx HW
    try simp only [Act.put,qA,qB,qC]
    refine wpD_p 5 rfl (fun x=>by go_simp;try with_reducible rfl) ?_
    try simp only [Act.put,qA,qB,qC]
    refine wpD_p 6 rfl (fun x=>by go_simp;try with_reducible rfl) ?_
    try simp only [Act.put,qA,qB,qC]
    refine wpD_p 7 rfl (fun x=>by go_simp;try with_reducible rfl) ?_
    try simp only [Act.put,qA,qB,qC]
    have HY2:=zS HY.1.swap.drop3;clear HY;refine qen (by kernel_rfl) ?_;intro x5 hx5;have HY3:=zS (HY2.1.below hx5);obtain ⟨⟨q0,q1,q2,q3,q4,q5,q6⟩,qf0,qf1,qf2,qf3,qf4,qf5,qf6⟩:=HY3.1.c7 0 rfl;refine qdq (y:=svT x5 nb up ca6 cm6 cc6 tx xg da6 xn dc6 la6 ln lc6 now) (i:=9) (by kernel_rfl) rfl (by rfl) (by go_simp) ?_;have HZ:=zS (HY3.1.svT up ca6 cm6 cc6 tx xg da6 xn dc6 la6 ln lc6 now);clear q0 qf0 q1 qf1 q2 qf2 q3 qf3 q4 qf4 q5 qf5 q6 qf6 hx5 HY2 HY3;simp only [Act.put];refine wpA_v 10 rfl (fun x=>by go_simp;try with_reducible rfl) ?_
    try simp only [Act.put,qA,qB,qC]
    refine qdr (by kernel_rfl) ?_ _;go_wp2_with fail;go_meet
    case rel=>exact ⟨nb,ca6,da6,la6,cm6,cc6,dc6,lc6,lo6,hi6,rfl,rfl,HC9,⟨HZ.1⟩⟩
  ·have T0:=zS ((HTX.1 x hx).new svZ 43)
   obtain ⟨nb,hnb⟩:∃ nb,nb=x.heap.size:=⟨_,rfl⟩;rw [<-hnb] at T0 ⊢;generalize x.alloc (.cells svZ 43)=xx at T0 ⊢;clear hnb hx
   try simp only [Act.put,qA,qB,qC]
   refine qbx (i:=1) (by kernel_rfl) rfl (by rfl) (fun x hx=>by go_simp) (fun x hx=>(HTS.1 _ (T0.1.below hx).bel).mono ?_);rintro e y ⟨ca6a,da6a,la6a,cm6a,cc6a,dc6a,lc6a,l1,h1,l2,h2,l3,h3,rfl,hA,hdc9,hlc9⟩;refine ⟨_,rfl,hA.bel,?_⟩;obtain ⟨lo6a,hlo6a⟩:∃ q,q=x.heap.size:=⟨_,rfl⟩;obtain ⟨hi6a,hhi6a⟩:∃ q,q=y.heap.size:=⟨_,rfl⟩;have T1:=zS ((T0.1.below hx).sv hA);rw [<-hlo6a,<-hhi6a] at T1;clear hA hdc9 hlc9 hx hlo6a hhi6a T0
   try simp only [Act.put,qA,qB,qC]
   refine wpD_c 3 rfl (fun x _=>HTE.1 x) (fun x hx=>by go_simp;try with_reducible rfl) ?_
   try simp only [Act.put,qA,qB,qC]
   refine qbx (i:=4) (by kernel_rfl) rfl (by rfl) (fun x hx=>by go_simp) (fun x hx=>((Exists.elim (svS.at9 ((T1.1.below hx).at 0 rfl) up gr now) fun lo hq=>hq.elim fun hi q=>HSP.1 _ _ _ _ _ _ dc6a lc6a lo hi q)).mono ?_);rintro e y2 ⟨ca6,cm6,cc6,da6,dc6,la6,lc6,l1,h1,l2,h2,l3,h3,rfl,hin⟩;refine ⟨_,rfl,hin.sl.bel,?_⟩;obtain ⟨lo6,hlo9⟩:∃ q,q=x.heap.size:=⟨_,rfl⟩;obtain ⟨hi6,hhi9⟩:∃ q,q=y2.heap.size:=⟨_,rfl⟩;have HY:=zS ((T1.1.below hx).sv hin.sl);have HC9:Sh (xn<=dc6/\ln<=lc6):=⟨by rw [HXN.1];exact hin.d,by rw [HLN.1];exact hin.l⟩;rw [<-hlo9,<-hhi9] at HY;clear hin hlo9 hhi9;clear hx
   try simp only [Act.put,qA,qB,qC]
   refine wpD_p 5 rfl (fun x=>by go_simp;try with_reducible rfl) ?_
   try simp only [Act.put,qA,qB,qC]
   refine wpD_p 6 rfl (fun x=>by go_simp;try with_reducible rfl) ?_
   try simp only [Act.put,qA,qB,qC]
   refine wpD_p 7 rfl (fun x=>by go_simp;try with_reducible rfl) ?_
   try simp only [Act.put,qA,qB,qC]
   have HY2:=zS HY.1.drop2.swap;clear HY;refine qen (by kernel_rfl) ?_;intro x5 hx5;have HY3:=zS (HY2.1.below hx5);obtain ⟨⟨q0,q1,q2,q3,q4,q5,q6⟩,qf0,qf1,qf2,qf3,qf4,qf5,qf6⟩:=HY3.1.c7 0 rfl;refine qdq (y:=svT x5 nb up ca6 cm6 cc6 tx xg da6 xn dc6 la6 ln lc6 now) (i:=9) (by kernel_rfl) rfl (by rfl) (by go_simp) ?_;have HZ:=zS (HY3.1.svT up ca6 cm6 cc6 tx xg da6 xn dc6 la6 ln lc6 now);clear q0 qf0 q1 qf1 q2 qf2 q3 qf3 q4 qf4 q5 qf5 q6 qf6 hx5 HY2 HY3;simp only [Act.put];refine wpA_v 10 rfl (fun x=>by go_simp;try with_reducible rfl) ?_
   try simp only [Act.put,qA,qB,qC]
   refine qdr (by kernel_rfl) ?_ _;go_wp2_with fail;go_meet
   case rel=>exact ⟨nb,ca6,da6,la6,cm6,cc6,dc6,lc6,lo6,hi6,rfl,rfl,HC9,⟨HZ.1⟩⟩
 case rest =>
 obtain ⟨b6,ca6,da6,la6,cm6,cc6,dc6,lc6,lo6,hi6,rfl,rfl,HC6,hS⟩:=hcut;subst hB;clear H;have H:=hS;clear hS;obtain ⟨tb_0,tb_1,tb_2,tb_3,tb_4,tb_5,tb_6⟩:=H.1.b7 3 rfl;go_upto_region 10 with (go_at_call 7;refine (HTS.1 _ H.1.bel).mono ?_;rintro e w4 ⟨ca8,da8,la8,cm8,cc8,dc8,lc8,l1,h1,l2,h2,l3,h3,rfl,hA,hdc8,hlc8⟩;have h9:=H.1.sv hA;replace H:=zS h9;clear hA h9 tb_0 tb_1 tb_2 tb_3 tb_4 tb_5 tb_6);have HC8:=zS (And.intro hdc8 hlc8);clear hdc8 hlc8;have HN:=zS (H.1.new #[.bool up,.slice ca8 cm8 cc8,.int .i64 nx,.int .i64 gr,.slice da8 dn dc8,.slice la8 ln lc8,.int .i64 now] 43);obtain ⟨b8,hb8⟩:∃ q,q=w4.heap.size:=⟨_,rfl⟩;rw [<-hb8] at HN ⊢;refine qaa (SL.p w _) HN.1 ?_;intro w5 hW;have H:=zS hW;clear hW HN hb8;obtain ⟨B,hB,hH⟩:=H.1.nm;replace H:=zS hH;clear hH;go_cut [9,10] from 36 to 42 (fun u8 u9 wq=>∃ (b9:Nat) (ca9 da9 la9:Option Addr) (cm9 cc9 dc9 lc9 lo9 hi9:Nat),u8 = .pointer (some ⟨b9,0,none⟩)/\u9 = .int .i64 rc/\Sh (xn<=dc9/\ln<=lc9)/\Sh (SL w wq (bxS b9 (svC up ca9 cm9 cc9 tx xg da9 xn dc9 la9 ln lc9 now)::svS XT XD L ca9 cm9 cc9 tx da9 la9 lo9 hi9::B)))
 case first =>
  subst hB;have HTX:=zS (fun (x:World) (hx:Later w5.drew x)=>H.1.later hx);refine qds (fun j=>decide (j=4\/j=5\/j=6\/7<j)) (by kernel_rfl) ?_;refine wpD_v 0 rfl (fun x hx=>by obtain ⟨d0,d1,d2,d3,d4,d5,d6⟩:=(HTX.1 x hx).b7 0 rfl;go_simp;try with_reducible rfl) ?_
  try simp only [Act.put,qA,qB,qC]
  refine wpD_v 1 rfl (fun x hx=>by obtain ⟨d0,d1,d2,d3,d4⟩:=(HTX.1 x hx).b5 4 rfl;go_simp;try with_reducible rfl) ?_
  try simp only [Act.put,qA,qB,qC]
  refine wpD_c 2 rfl (fun x _=>HTE.1 x) (fun x hx=>by go_simp;try with_reducible rfl) ?_
  try simp only [Act.put,qA,qB,qC]
  refine qec (C:=svZ) (t:=43) (i:=3) (j:=7) (by kernel_rfl) rfl rfl (by rfl) (by rfl) (fun x hx=>by go_simp) (fun x hx=>by kernel_rfl) (fun x hx=>((Exists.elim (svS.at9 ((HTX.1 x hx).at 1 rfl) up gr now) fun lo hq=>hq.elim fun hi q=>HIM.1 _ _ _ _ _ _ dc8 lc8 lo hi ((HTX.1 x hx).bel) q)).mono ?_) (fun x hx=>?_)
  ·rintro e y2 ⟨ca9,cm9,cc9,da9,dc9,la9,lc9,l1,h1,l2,h2,l3,h3,rfl,hin⟩
   refine ⟨_,rfl,hin.sl.bel,?_⟩;obtain ⟨lo9,hlo9⟩:∃ q,q=x.heap.size:=⟨_,rfl⟩;obtain ⟨hi9,hhi9⟩:∃ q,q=y2.heap.size:=⟨_,rfl⟩;have HY:=zS ((HTX.1 x hx).sv hin.sl);have HC9:Sh (xn<=dc9/\ln<=lc9):=⟨by rw [HXN.1];exact hin.d,by rw [HLN.1];exact hin.l⟩;rw [<-hlo9,<-hhi9] at HY;clear hin hlo9 hhi9;clear hx
   try simp only [Act.put,qA,qB,qC]
   refine wpD_p 4 rfl (fun x=>by go_simp;try with_reducible rfl) ?_
   try simp only [Act.put,qA,qB,qC]
   refine wpD_p 5 rfl (fun x=>by go_simp;try with_reducible rfl) ?_
   try simp only [Act.put,qA,qB,qC]
   refine wpD_p 6 rfl (fun x=>by go_simp;try with_reducible rfl) ?_
   try simp only [Act.put,qA,qB,qC]
   refine qps (i:=7) (by kernel_rfl) rfl (by rfl) (fun x2 hx2=>⟨.pointer (some ⟨x2.heap.size,0,none⟩),x2.alloc (.cells svZ 43),by kernel_rfl,zB.alloc zL _,?_⟩);have HY2:=zS ((HY.1.below hx2).new svZ 43);obtain ⟨nb,hnb⟩:∃ nb,nb=x2.heap.size:=⟨_,rfl⟩;rw [<-hnb] at HY2 ⊢;clear hx2 hnb HY
   try simp only [Act.put,qA,qB,qC]
   refine qen (by kernel_rfl) ?_;intro x5 hx5;have HY3:=zS (HY2.1.below hx5);obtain ⟨⟨q0,q1,q2,q3,q4,q5,q6⟩,qf0,qf1,qf2,qf3,qf4,qf5,qf6⟩:=HY3.1.c7 0 rfl;refine qdq (y:=svT x5 nb up ca9 cm9 cc9 tx xg da9 xn dc9 la9 ln lc9 now) (i:=8) (by kernel_rfl) rfl (by rfl) (by go_simp) ?_;have HZ:=zS (HY3.1.svT up ca9 cm9 cc9 tx xg da9 xn dc9 la9 ln lc9 now);clear q0 qf0 q1 qf1 q2 qf2 q3 qf3 q4 qf4 q5 qf5 q6 qf6 hx5 HY2 HY3;simp only [Act.put];refine wpA_v 9 rfl (fun x=>by go_simp;try with_reducible rfl) ?_
   try simp only [Act.put,qA,qB,qC]
   refine qdr (by kernel_rfl) ?_ _;go_wp2_with fail;go_meet
   case rel=>exact ⟨nb,ca9,da9,la9,cm9,cc9,dc9,lc9,lo9,hi9,rfl,rfl,HC9,⟨HZ.1⟩⟩
  ·have HW:=zS ((HTX.1 x hx).new svZ 43)
   obtain ⟨nb,hnb⟩:∃ nb,nb=x.heap.size:=⟨_,rfl⟩;rw [<-hnb] at HW ⊢;generalize x.alloc (.cells svZ 43)=xx at HW ⊢;clear hnb hx
   try simp only [Act.put,qA,qB,qC]
   refine qbx (i:=3) (by kernel_rfl) rfl (by rfl) (fun x hx=>by go_simp) (fun x hx=>((Exists.elim (svS.at9 ((HW.1.below hx).at 2 rfl) up gr now) fun lo hq=>hq.elim fun hi q=>HIM.1 _ _ _ _ _ _ dc8 lc8 lo hi ((HW.1.below hx).bel) q)).mono ?_);rintro e y2 ⟨ca9,cm9,cc9,da9,dc9,la9,lc9,l1,h1,l2,h2,l3,h3,rfl,hin⟩;refine ⟨_,rfl,hin.sl.bel,?_⟩;obtain ⟨lo9,hlo9⟩:∃ q,q=x.heap.size:=⟨_,rfl⟩;obtain ⟨hi9,hhi9⟩:∃ q,q=y2.heap.size:=⟨_,rfl⟩;have HY:=zS ((HW.1.below hx).sv hin.sl);have HC9:Sh (xn<=dc9/\ln<=lc9):=⟨by rw [HXN.1];exact hin.d,by rw [HLN.1];exact hin.l⟩;rw [<-hlo9,<-hhi9] at HY;clear hin hlo9 hhi9;clear hx HW
   try simp only [Act.put,qA,qB,qC]
   refine wpD_p 4 rfl (fun x=>by go_simp;try with_reducible rfl) ?_
   try simp only [Act.put,qA,qB,qC]
   refine wpD_p 5 rfl (fun x=>by go_simp;try with_reducible rfl) ?_
   try simp only [Act.put,qA,qB,qC]
   refine wpD_p 6 rfl (fun x=>by go_simp;try with_reducible rfl) ?_
   try simp only [Act.put,qA,qB,qC]
   have HY2:=zS HY.1.swap;clear HY;refine qen (by kernel_rfl) ?_;intro x5 hx5;have HY3:=zS (HY2.1.below hx5);obtain ⟨⟨q0,q1,q2,q3,q4,q5,q6⟩,qf0,qf1,qf2,qf3,qf4,qf5,qf6⟩:=HY3.1.c7 0 rfl;refine qdq (y:=svT x5 nb up ca9 cm9 cc9 tx xg da9 xn dc9 la9 ln lc9 now) (i:=8) (by kernel_rfl) rfl (by rfl) (by go_simp) ?_;have HZ:=zS (HY3.1.svT up ca9 cm9 cc9 tx xg da9 xn dc9 la9 ln lc9 now);clear q0 qf0 q1 qf1 q2 qf2 q3 qf3 q4 qf4 q5 qf5 q6 qf6 hx5 HY2 HY3;simp only [Act.put];refine wpA_v 9 rfl (fun x=>by go_simp;try with_reducible rfl) ?_
   try simp only [Act.put,qA,qB,qC]
   refine qdr (by kernel_rfl) ?_ _;go_wp2_with fail;go_meet
   case rel=>exact ⟨nb,ca9,da9,la9,cm9,cc9,dc9,lc9,lo9,hi9,rfl,rfl,HC9,⟨HZ.1⟩⟩
 case rest =>
 obtain ⟨b9,ca9,da9,la9,cm9,cc9,dc9,lc9,lo9,hi9,rfl,rfl,HC9,hS⟩:=hcut;subst hB;clear H;have H:=hS;clear hS;obtain ⟨b9_0,b9_1,b9_2,b9_3,b9_4,b9_5,b9_6⟩:=H.1.b7 0 rfl;obtain ⟨b6_0,b6_1,b6_2,b6_3,b6_4,b6_5,b6_6⟩:=H.1.b7 4 rfl;go_upto_region 13 with (go_at_call 10;refine (HEX.1 _ _ _ _ _ _ _ _ _ _ _ _ _ _ _ _ _ _ _ (H.1.at 1 rfl) (H.1.at 5 rfl)).mono ?_;rintro e w6 ⟨rfl,hb⟩;replace H:=zS (H.1.below hb);clear hb b9_0 b9_1 b9_2 b9_3 b9_4 b9_5 b9_6 b6_0 b6_1 b6_2 b6_3 b6_4 b6_5 b6_6);have HTX:=zS (fun (x:World) (hx:Later w6.drew x)=>H.1.later hx);refine qds (fun j=>decide (5<j)) (by kernel_rfl) ?_;refine wpD_v 0 rfl (fun x hx=>by obtain ⟨d0,d1,d2,d3,d4,d5,d6⟩:=(HTX.1 x hx).b7 2 rfl;go_simp;try with_reducible rfl) ?_
 try simp only [Act.put,qA,qB,qC]
 refine wpD_v 1 rfl (fun x hx=>by obtain ⟨d0,d1,d2,d3,d4,d5,d6⟩:=(HTX.1 x hx).b7 7 rfl;go_simp;try with_reducible rfl) ?_
 try simp only [Act.put,qA,qB,qC]
 refine qbx (i:=2) (by kernel_rfl) rfl (by rfl) (fun x hx=>by go_simp) (fun x hx=>(HTS.1 _ (HTX.1 x hx).bel).mono ?_);rintro e y ⟨ca7,da7,la7,cm7,cc7,dc7,lc7,l1,h1,l2,h2,l3,h3,rfl,hA,hdc9,hlc9⟩;refine ⟨_,rfl,hA.bel,?_⟩;obtain ⟨lo7,hlo7⟩:∃ q,q=x.heap.size:=⟨_,rfl⟩;obtain ⟨hi7,hhi7⟩:∃ q,q=y.heap.size:=⟨_,rfl⟩;have T1:=zS ((HTX.1 x hx).sv hA);rw [<-hlo7,<-hhi7] at T1;clear hA hdc9 hlc9 hx HTX H hlo7 hhi7
 try simp only [Act.put,qA,qB,qC]
 refine wpD_c 3 rfl (fun x hx=>HEI.1 _ _ _ _ _ _ _ _ _ _ _ dc8 dc7 lc8 lc7 _ _ _ _ ((T1.1.below hx).at 4 rfl) ((T1.1.below hx).at 0 rfl)) (fun x hx=>by go_simp;try with_reducible rfl) ?_
 try simp only [Act.put,qA,qB,qC]
 refine wpD_v 4 rfl (fun x hx=>by go_simp;try with_reducible rfl) ?_
 try simp only [Act.put,qA,qB,qC]
 refine wpD_done (by kernel_rfl) (fun w7 hy9=>?_) _;have H:=zS (T1.1.below hy9).tail;clear hy9 T1;obtain ⟨K1,hK1⟩:∃ K,K=markK 1 T.nodes+3*dn+3*ln:=⟨_,rfl⟩;obtain ⟨K2,hK2⟩:∃ K,K=markK 1 XT.nodes+3*xn+3*ln:=⟨_,rfl⟩;rw [<-hK1] at HMI;rw [<-hK2] at HMX HHX;clear hK1 hK2;have k10:¬ (K1:Int)<0:=by omega
 have k20:¬ (K2:Int)<0:=by omega
 have k11:decide ((K1:Int)<0)=false:=by simp
 have k21:decide ((K2:Int)<0)=false:=by simp
 have k22:((K2:Int) != (K2:Int))=false:=by simp
 obtain ⟨b8_0,b8_1,b8_2,b8_3,b8_4,b8_5,b8_6⟩:=H.1.b7 2 rfl;go_upto_region 17 with (go_at_call 11;refine (HMI.1 _ _ _ _ _ _ _ _ _ _ (H.1.at 3 rfl) HC8.1.1 HC8.1.2 (H.1.hi 3 rfl)).mono ?_;rintro e w8 ⟨rfl,hH,ht⟩;have h9:=H.1.turn 3 rfl ht hH (shS.loc _ _ _ _ _ _ _ _ _ _ _);simp only [List.set_cons_zero,List.set_cons_succ] at h9;replace H:=zS h9;clear hH ht h9 b8_0 b8_1 b8_2 b8_3 b8_4 b8_5 b8_6);obtain ⟨b9_0,b9_1,b9_2,b9_3,b9_4,b9_5,b9_6⟩:=H.1.b7 0 rfl;obtain ⟨b6_0,b6_1,b6_2,b6_3,b6_4,b6_5,b6_6⟩:=H.1.b7 4 rfl;go_upto_region 20 with (go_at_call 10;refine (HEX.1 _ _ _ _ _ _ _ _ _ _ _ _ _ _ _ _ _ _ _ (H.1.at 1 rfl) (H.1.at 5 rfl)).mono ?_;rintro e w9 ⟨rfl,hb⟩;replace H:=zS (H.1.below hb);clear hb b9_0 b9_1 b9_2 b9_3 b9_4 b9_5 b9_6 b6_0 b6_1 b6_2 b6_3 b6_4 b6_5 b6_6);obtain ⟨b9_0,b9_1,b9_2,b9_3,b9_4,b9_5,b9_6⟩:=H.1.b7 0 rfl;go_upto_region 22 with (go_at_call 11;refine (HMX.1 _ _ _ _ _ _ _ _ _ _ (H.1.at 1 rfl) HC9.1.1 HC9.1.2 (H.1.hi 1 rfl)).mono ?_;rintro e w10 ⟨rfl,hH,ht⟩;have h9:=H.1.turn 1 rfl ht hH (shS.loc _ _ _ _ _ _ _ _ _ _ _);simp only [List.set_cons_zero,List.set_cons_succ] at h9;replace H:=zS h9;clear hH ht h9 b9_0 b9_1 b9_2 b9_3 b9_4 b9_5 b9_6);obtain ⟨b9_0,b9_1,b9_2,b9_3,b9_4,b9_5,b9_6⟩:=H.1.b7 0 rfl;go_upto_region 27 with (go_at_call 12;refine (HHX.1 _ _ _ _ _ _ _ _ _ _ (H.1.at 1 rfl)).mono ?_;rintro e w11 ⟨rfl,hb⟩;replace H:=zS (H.1.below hb);clear hb b9_0 b9_1 b9_2 b9_3 b9_4 b9_5 b9_6);obtain ⟨B,hB,hH⟩:=H.1.nm;replace H:=zS hH;clear hH
 go_cut [14,15] from 84 to 91 (fun u8 u9 wq=>∃ (b14:Nat) (ca14 da14 la14:Option Addr) (cm14 cc14 dc14 lc14 lo14 hi14:Nat),u8 = .pointer (some ⟨b14,0,none⟩)/\u9 = .int .i64 rc/\Sh (xn<=dc14/\ln<=lc14)/\Sh (SL w wq (bxS b14 (svC up ca14 cm14 cc14 tx xg da14 xn dc14 la14 ln lc14 now)::svS XT XD L ca14 cm14 cc14 tx da14 la14 lo14 hi14::B)))
 case first =>
  subst hB;have HTX:=zS (fun (x:World) (hx:Later w11.drew x)=>H.1.later hx);refine qds (fun j=>decide (j=5\/j=6\/j=7\/8<j)) (by kernel_rfl) ?_;refine wpD_v 0 rfl (fun x hx=>by obtain ⟨d0,d1,d2,d3,d4,d5,d6⟩:=(HTX.1 x hx).b7 7 rfl;go_simp;try with_reducible rfl) ?_
  try simp only [Act.put,qA,qB,qC]
  refine wpD_v 2 rfl (fun x hx=>by obtain ⟨d0,d1,d2,d3,d4⟩:=(HTX.1 x hx).b5 6 rfl;go_simp;try with_reducible rfl) ?_
  try simp only [Act.put,qA,qB,qC]
  refine qec (C:=svZ) (t:=43) (i:=1) (j:=8) (by kernel_rfl) rfl rfl (by rfl) (by rfl) (fun x hx=>by go_simp) (fun x hx=>by kernel_rfl) (fun x hx=>(HTS.1 _ (HTX.1 x hx).bel).mono ?_) (fun x hx=>?_)
  ·rintro e y ⟨ca14a,da14a,la14a,cm14a,cc14a,dc14a,lc14a,l1,h1,l2,h2,l3,h3,rfl,hA,hdc9,hlc9⟩
   refine ⟨_,rfl,hA.bel,?_⟩;obtain ⟨lo14a,hlo14a⟩:∃ q,q=x.heap.size:=⟨_,rfl⟩;obtain ⟨hi14a,hhi14a⟩:∃ q,q=y.heap.size:=⟨_,rfl⟩;have T1:=zS ((HTX.1 x hx).sv hA);rw [<-hlo14a,<-hhi14a] at T1;clear hA hdc9 hlc9 hx hlo14a hhi14a
   try simp only [Act.put,qA,qB,qC]
   refine wpD_c 3 rfl (fun x _=>HTE.1 x) (fun x hx=>by go_simp;try with_reducible rfl) ?_
   try simp only [Act.put,qA,qB,qC]
   refine qec (C:=svZ) (t:=43) (i:=4) (j:=8) (by kernel_rfl) rfl rfl (by rfl) (by rfl) (fun x hx=>by go_simp) (fun x hx=>by kernel_rfl) (fun x hx=>((Exists.elim (svS.at9 ((T1.1.below hx).at 0 rfl) up gr now) fun lo hq=>hq.elim fun hi q=>HIM.1 _ _ _ _ _ _ dc14a lc14a lo hi ((T1.1.below hx).bel) q)).mono ?_) (fun x hx=>?_)
   ·rintro e y2 ⟨ca14,cm14,cc14,da14,dc14,la14,lc14,l1,h1,l2,h2,l3,h3,rfl,hin⟩
    refine ⟨_,rfl,hin.sl.bel,?_⟩;obtain ⟨lo14,hlo9⟩:∃ q,q=x.heap.size:=⟨_,rfl⟩;obtain ⟨hi14,hhi9⟩:∃ q,q=y2.heap.size:=⟨_,rfl⟩;have HY:=zS ((T1.1.below hx).sv hin.sl);have HC9:Sh (xn<=dc14/\ln<=lc14):=⟨by rw [HXN.1];exact hin.d,by rw [HLN.1];exact hin.l⟩;rw [<-hlo9,<-hhi9] at HY;clear hin hlo9 hhi9;clear hx
    try simp only [Act.put,qA,qB,qC]
    refine wpD_p 5 rfl (fun x=>by go_simp;try with_reducible rfl) ?_
    try simp only [Act.put,qA,qB,qC]
    refine wpD_p 6 rfl (fun x=>by go_simp;try with_reducible rfl) ?_
    try simp only [Act.put,qA,qB,qC]
    refine wpD_p 7 rfl (fun x=>by go_simp;try with_reducible rfl) ?_
    try simp only [Act.put,qA,qB,qC]
    refine qps (i:=8) (by kernel_rfl) rfl (by rfl) (fun x2 hx2=>⟨.pointer (some ⟨x2.heap.size,0,none⟩),x2.alloc (.cells svZ 43),by kernel_rfl,zB.alloc zL _,?_⟩);have HY2:=zS ((HY.1.below hx2).new svZ 43);obtain ⟨nb,hnb⟩:∃ nb,nb=x2.heap.size:=⟨_,rfl⟩;rw [<-hnb] at HY2 ⊢;clear hx2 hnb HY
    try simp only [Act.put,qA,qB,qC]
    replace HY2:=zS HY2.1.drop3;refine qen (by kernel_rfl) ?_;intro x5 hx5;have HY3:=zS (HY2.1.below hx5);obtain ⟨⟨q0,q1,q2,q3,q4,q5,q6⟩,qf0,qf1,qf2,qf3,qf4,qf5,qf6⟩:=HY3.1.c7 0 rfl;refine qdq (y:=svT x5 nb up ca14 cm14 cc14 tx xg da14 xn dc14 la14 ln lc14 now) (i:=9) (by kernel_rfl) rfl (by rfl) (by go_simp) ?_;have HZ:=zS (HY3.1.svT up ca14 cm14 cc14 tx xg da14 xn dc14 la14 ln lc14 now);clear q0 qf0 q1 qf1 q2 qf2 q3 qf3 q4 qf4 q5 qf5 q6 qf6 hx5 HY2 HY3;simp only [Act.put];refine wpA_v 10 rfl (fun x=>by go_simp;try with_reducible rfl) ?_
    try simp only [Act.put,qA,qB,qC]
    refine qdr (by kernel_rfl) ?_ _;go_wp2_with fail;go_meet
    case rel=>exact ⟨nb,ca14,da14,la14,cm14,cc14,dc14,lc14,lo14,hi14,rfl,rfl,HC9,⟨HZ.1⟩⟩
   ·have HW:=zS ((T1.1.below hx).new svZ 43)
    obtain ⟨nb,hnb⟩:∃ nb,nb=x.heap.size:=⟨_,rfl⟩;rw [<-hnb] at HW ⊢;generalize x.alloc (.cells svZ 43)=xx at HW ⊢;clear hnb hx
    try simp only [Act.put,qA,qB,qC]
    refine qbx (i:=4) (by kernel_rfl) rfl (by rfl) (fun x hx=>by go_simp) (fun x hx=>((Exists.elim (svS.at9 ((HW.1.below hx).at 1 rfl) up gr now) fun lo hq=>hq.elim fun hi q=>HIM.1 _ _ _ _ _ _ dc14a lc14a lo hi ((HW.1.below hx).bel) q)).mono ?_);rintro e y2 ⟨ca14,cm14,cc14,da14,dc14,la14,lc14,l1,h1,l2,h2,l3,h3,rfl,hin⟩;refine ⟨_,rfl,hin.sl.bel,?_⟩;obtain ⟨lo14,hlo9⟩:∃ q,q=x.heap.size:=⟨_,rfl⟩;obtain ⟨hi14,hhi9⟩:∃ q,q=y2.heap.size:=⟨_,rfl⟩;have HY:=zS ((HW.1.below hx).sv hin.sl);have HC9:Sh (xn<=dc14/\ln<=lc14):=⟨by rw [HXN.1];exact hin.d,by rw [HLN.1];exact hin.l⟩;rw [<-hlo9,<-hhi9] at HY;clear hin hlo9 hhi9;clear hx HW
    try simp only [Act.put,qA,qB,qC]
    refine wpD_p 5 rfl (fun x=>by go_simp;try with_reducible rfl) ?_
    try simp only [Act.put,qA,qB,qC]
    refine wpD_p 6 rfl (fun x=>by go_simp;try with_reducible rfl) ?_
    try simp only [Act.put,qA,qB,qC]
    refine wpD_p 7 rfl (fun x=>by go_simp;try with_reducible rfl) ?_
    try simp only [Act.put,qA,qB,qC]
    have HY2:=zS HY.1.swap.drop3;clear HY;refine qen (by kernel_rfl) ?_;intro x5 hx5;have HY3:=zS (HY2.1.below hx5);obtain ⟨⟨q0,q1,q2,q3,q4,q5,q6⟩,qf0,qf1,qf2,qf3,qf4,qf5,qf6⟩:=HY3.1.c7 0 rfl;refine qdq (y:=svT x5 nb up ca14 cm14 cc14 tx xg da14 xn dc14 la14 ln lc14 now) (i:=9) (by kernel_rfl) rfl (by rfl) (by go_simp) ?_;have HZ:=zS (HY3.1.svT up ca14 cm14 cc14 tx xg da14 xn dc14 la14 ln lc14 now);clear q0 qf0 q1 qf1 q2 qf2 q3 qf3 q4 qf4 q5 qf5 q6 qf6 hx5 HY2 HY3;simp only [Act.put];refine wpA_v 10 rfl (fun x=>by go_simp;try with_reducible rfl) ?_
    try simp only [Act.put,qA,qB,qC]
    refine qdr (by kernel_rfl) ?_ _;go_wp2_with fail;go_meet
    case rel=>exact ⟨nb,ca14,da14,la14,cm14,cc14,dc14,lc14,lo14,hi14,rfl,rfl,HC9,⟨HZ.1⟩⟩
  ·have T0:=zS ((HTX.1 x hx).new svZ 43)
   obtain ⟨nb,hnb⟩:∃ nb,nb=x.heap.size:=⟨_,rfl⟩;rw [<-hnb] at T0 ⊢;generalize x.alloc (.cells svZ 43)=xx at T0 ⊢;clear hnb hx
   try simp only [Act.put,qA,qB,qC]
   refine qbx (i:=1) (by kernel_rfl) rfl (by rfl) (fun x hx=>by go_simp) (fun x hx=>(HTS.1 _ (T0.1.below hx).bel).mono ?_);rintro e y ⟨ca14a,da14a,la14a,cm14a,cc14a,dc14a,lc14a,l1,h1,l2,h2,l3,h3,rfl,hA,hdc9,hlc9⟩;refine ⟨_,rfl,hA.bel,?_⟩;obtain ⟨lo14a,hlo14a⟩:∃ q,q=x.heap.size:=⟨_,rfl⟩;obtain ⟨hi14a,hhi14a⟩:∃ q,q=y.heap.size:=⟨_,rfl⟩;have T1:=zS ((T0.1.below hx).sv hA);rw [<-hlo14a,<-hhi14a] at T1;clear hA hdc9 hlc9 hx hlo14a hhi14a T0
   try simp only [Act.put,qA,qB,qC]
   refine wpD_c 3 rfl (fun x _=>HTE.1 x) (fun x hx=>by go_simp;try with_reducible rfl) ?_
   try simp only [Act.put,qA,qB,qC]
   refine qbx (i:=4) (by kernel_rfl) rfl (by rfl) (fun x hx=>by go_simp) (fun x hx=>((Exists.elim (svS.at9 ((T1.1.below hx).at 0 rfl) up gr now) fun lo hq=>hq.elim fun hi q=>HIM.1 _ _ _ _ _ _ dc14a lc14a lo hi ((T1.1.below hx).bel) q)).mono ?_);rintro e y2 ⟨ca14,cm14,cc14,da14,dc14,la14,lc14,l1,h1,l2,h2,l3,h3,rfl,hin⟩;refine ⟨_,rfl,hin.sl.bel,?_⟩;obtain ⟨lo14,hlo9⟩:∃ q,q=x.heap.size:=⟨_,rfl⟩;obtain ⟨hi14,hhi9⟩:∃ q,q=y2.heap.size:=⟨_,rfl⟩;have HY:=zS ((T1.1.below hx).sv hin.sl);have HC9:Sh (xn<=dc14/\ln<=lc14):=⟨by rw [HXN.1];exact hin.d,by rw [HLN.1];exact hin.l⟩;rw [<-hlo9,<-hhi9] at HY;clear hin hlo9 hhi9;clear hx
   try simp only [Act.put,qA,qB,qC]
   refine wpD_p 5 rfl (fun x=>by go_simp;try with_reducible rfl) ?_
   try simp only [Act.put,qA,qB,qC]
   refine wpD_p 6 rfl (fun x=>by go_simp;try with_reducible rfl) ?_
   try simp only [Act.put,qA,qB,qC]
   refine wpD_p 7 rfl (fun x=>by go_simp;try with_reducible rfl) ?_
   try simp only [Act.put,qA,qB,qC]
   have HY2:=zS HY.1.drop2.swap;clear HY;refine qen (by kernel_rfl) ?_;intro x5 hx5;have HY3:=zS (HY2.1.below hx5);obtain ⟨⟨q0,q1,q2,q3,q4,q5,q6⟩,qf0,qf1,qf2,qf3,qf4,qf5,qf6⟩:=HY3.1.c7 0 rfl;refine qdq (y:=svT x5 nb up ca14 cm14 cc14 tx xg da14 xn dc14 la14 ln lc14 now) (i:=9) (by kernel_rfl) rfl (by rfl) (by go_simp) ?_;have HZ:=zS (HY3.1.svT up ca14 cm14 cc14 tx xg da14 xn dc14 la14 ln lc14 now);clear q0 qf0 q1 qf1 q2 qf2 q3 qf3 q4 qf4 q5 qf5 q6 qf6 hx5 HY2 HY3;simp only [Act.put];refine wpA_v 10 rfl (fun x=>by go_simp;try with_reducible rfl) ?_
   try simp only [Act.put,qA,qB,qC]
   refine qdr (by kernel_rfl) ?_ _;go_wp2_with fail;go_meet
   case rel=>exact ⟨nb,ca14,da14,la14,cm14,cc14,dc14,lc14,lo14,hi14,rfl,rfl,HC9,⟨HZ.1⟩⟩
 case rest =>
 obtain ⟨b14,ca14,da14,la14,cm14,cc14,dc14,lc14,lo14,hi14,rfl,rfl,HC14,hS⟩:=hcut;subst hB;clear H;have H:=hS;clear hS;obtain ⟨b14_0,b14_1,b14_2,b14_3,b14_4,b14_5,b14_6⟩:=H.1.b7 0 rfl;obtain ⟨b6_0,b6_1,b6_2,b6_3,b6_4,b6_5,b6_6⟩:=H.1.b7 6 rfl;go_upto_region 31 with (go_at_call 10;refine (HEX.1 _ _ _ _ _ _ _ _ _ _ _ _ _ _ _ _ _ _ _ (H.1.at 1 rfl) (H.1.at 7 rfl)).mono ?_;rintro e w12 ⟨rfl,hb⟩;replace H:=zS (H.1.below hb);clear hb b14_0 b14_1 b14_2 b14_3 b14_4 b14_5 b14_6 b6_0 b6_1 b6_2 b6_3 b6_4 b6_5 b6_6);obtain ⟨b9_0,b9_1,b9_2,b9_3,b9_4,b9_5,b9_6⟩:=H.1.b7 2 rfl;go_wp2_with (go_at_call 12;refine (HHX.1 _ _ _ _ _ _ _ _ _ _ (H.1.at 3 rfl)).mono ?_;rintro e w13 ⟨rfl,hb⟩;replace H:=zS (H.1.below hb);clear hb b9_0 b9_1 b9_2 b9_3 b9_4 b9_5 b9_6);go_ret;exact ⟨rfl,H.1.bel⟩
end
end Go.Proofs.YtackbhpgdohimaaGreatDoor
