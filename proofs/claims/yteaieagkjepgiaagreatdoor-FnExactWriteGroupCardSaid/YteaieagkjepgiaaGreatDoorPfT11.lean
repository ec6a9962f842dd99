/- Texts of ours, laid one behind the other: TGrwH, TWgS. -/
import Derived.Test.YteaieagkjepgiaaGreatDoorPfT10
import Derived.KernelRfl
set_option linter.unusedVariables false
set_option linter.unusedSimpArgs false
/- . -/
namespace Go.Proofs.YteaieagkjepgiaaGreatDoorT
set_option maxRecDepth 100000
open Go.RowKit
end Go.Proofs.YteaieagkjepgiaaGreatDoorT
/- . -/
namespace Go.Proofs.YteaieagkjepgiaaGreatDoorT
set_option maxRecDepth 100000
open Go.RowKit BigFrame
attribute [local go_sem ↓] Go.wp_at_zero Go.wp_at_succ
set_option maxRecDepth 100000 in
set_option maxHeartbeats 1000000 in
theorem specFst (a:Option Addr) (rs:List HoR) (cap k:Nat) (x:Int) (w:World) (hr:HsRow w a rs) (hl:rs.length<=1048576) (hk:fstI (hms rs) x=k) (hkl:k<rs.length) :
  Calls Tw.prog 16 #[.slice a rs.length cap,.int .i64 x] w fun e w'=>e = .returned (.int .i64 (k:Nat))/\w'=w:=by
 have hb:∀ i (h:i<rs.length),i<k->(rs[i].h.id==x)=false:=fun i h hi=>by
  have q:=List.not_of_lt_findIdx (p:=fun h:HM=>h.id==x) (xs:=hms rs) (i:=i) (by show i<fstI (hms rs) x;omega)
  simpa [hms] using q
 have he:∀ h:k<rs.length,rs[k].h.id=x:=fun h=>by
  have q:=fst_id (hs:=hms rs) (x:=x) (by rw [hk,hms_len];exact h)
  simp only [hk] at q
  simpa [hms] using q
 obtain ⟨n,hn⟩:∃ n,n=rs.length:=⟨_,rfl⟩
 have HR:=Shut.mk hr
 have HB:=Shut.mk hb
 have HE:=Shut.mk he
 have HN:=Shut.mk hn
 have HK:=Shut.mk hkl
 rw [<-hn] at hl ⊢
 clear hr hb he hn hk hkl
 go_enter Tw.func16,Tw.ntmps16
 go_wp2_with fail
 go_loopw [5] (fun i9 wr=>∃ (i:Nat),i9 = .int .i64 (i:Nat)/\i<=k/\wr=w) (fun i9 _=>n - (intOf i9).toNat)
 case atStart=>exact ⟨0,rfl,Nat.zero_le _,rfl⟩
 case round =>
  obtain ⟨i,rfl,hi,rfl⟩:=hrel
  have hir:i<rs.length:=Nat.lt_of_le_of_lt hi HK.out
  obtain ⟨b,off,r,rfl,hre,lb,hc⟩:=hs_at HR.out (Below.refl _ _) hir
  obtain ⟨d0,_,_,_⟩:=hc wr (Below.refl _ _)
  have i0:(0:Int)<=(i:Int):=by omega
  have i1:(i:Int)<(n:Int):=by have:=HN.out;omega
  by_cases e:i=k
  ·have hid:r.h.id=x:=by subst e;rw [hre];exact HE.out hir
   have e3:(r.h.id==x)=true:=by simpa using hid
   have HI:=Shut.mk e
   clear hc hre e
   go_wp2_with fail
   go_ret
   exact ⟨by rw [HI.out];rfl,rfl⟩
  ·have e3:(r.h.id==x)=false:=by rw [hre];exact HB.out i hir (by omega)
   have e4:¬ r.h.id=x:=by simpa using e3
   have hik:i+1<=k:=by omega
   clear hc hre e
   go_wp2_with fail
   go_roundw
   case rel=>exact ⟨i+1,by go_num,hik,by first | rfl | trivial⟩
   case measure=>simp [intOf];omega
theorem own_any3w {W:World} {B ty sz n:Nat} {v:Value} {L:List Value} (h:W.ownsRow B ty sz v n L):∃ a c,v = .slice a n c:=by
 rcases h.2 with ⟨rfl,h0⟩ | ⟨g,cap,cur,e,_⟩
 ·exact ⟨none,0,by rw [h0]⟩
 ·exact ⟨_,_,e⟩
theorem iv_len9w (L:List Int):(iv L).length=L.length:=by simp [iv]
structure WgSt (hs:List HM) (grp:Int) (all:List ByteArray) (ids:List Int) (n i:Nat) (w3 wr:World) (a:Option Addr) (gs:List HoR):Prop where
 is:putAll hs grp all ids i=some (hms gs)
 len:gs.length=n
 wr:WR w3 wr a gs
set_option maxRecDepth 100000 in
set_option maxHeartbeats 8000000 in
theorem specWriteGroup (a:Option Addr) (rs:List HoR) (cap:Nat) (s grp:Int) (t:ByteArray) (w:World) (hr:HsRow w a rs) (hl:rs.length<=1048576) (hf:HsFits (hms rs)) (hz:hsSum (hms rs)<=1048576) (ht:t.size<=1048576) (hgb:-9223372036854775808<=grp/\grp<=9223372036854775807) :
  Calls Tw.prog 5 #[.slice a rs.length cap,.int .i64 s,.int .i64 grp,.string t] w fun e w'=>WgPost (writeX (hms rs) s grp t) w e w':=by
 have HPO:=Shut.mk (fun (ts:List ByteArray) (ids:List Int) (h1:∀ x ∈ ts,x.size<=200) (h2:∀ x ∈ ids,∃ y ∈ hms rs,y.id=x) (h3:ids.length<=6) (i:Nat) (cur:List HM) (h4:i<=ids.length) (h5:putAll (hms rs) grp ts ids i=some cur)=>putAll_ok hf hz hgb h1 h2 h3 i cur h4 h5)
 have HCU:=Shut.mk (fun W=>specCutUnits s t W (by omega))
 have HEN:Shut (∀ (W:World) (u:Value) (lo hi:Nat),SSee W u (cutX s t).1 lo hi->Calls Tw.prog 13 #[.int .i64 s,u] W fun e w'=>TPost (encX s (cutX s t).1) W e w'):=⟨fun W u lo hi hu=>specEncode s hu (cut_fit9 s t)⟩
 have HEL:=Shut.mk (enc_len9 s (cutX s t).1)
 have HES:=Shut.mk (enc_size9 s (cutX s t).1)
 have HEC:=Shut.mk (fun h=>enc_cut (s:=s) (t:=t) h)
 obtain ⟨R,hR⟩:∃ R,R=writeX (hms rs) s grp t:=⟨_,rfl⟩
 rw [<-hR]
 unfold writeX at hR
 generalize encX s (cutX s t).1=EN at *
 obtain ⟨all,okE⟩:=EN
 have HPG:Shut (∀ W,Below w.heap.size w W->Calls Tw.prog 14 #[.slice a rs.length cap,.int .i64 (all.length:Nat)] W fun e w'=>PlcPost (plcX (hms rs) (all.length:Nat)) W e w'):=⟨fun W hW=>specPlaceGroup a rs cap _ W (hr.stays hW) hl⟩
 have HPM:Shut (∀ x ∈ (plcX (hms rs) (all.length:Nat)).1,∃ y ∈ hms rs,y.id=x):=⟨fun x hx=>plc_mem9 hx⟩
 have HPLen:Shut ((plcX (hms rs) (all.length:Nat)).1.length<=all.length):=⟨plc_few⟩
 have HCP:Shut (∀ W,Below w.heap.size w W->Calls Tw.prog 15 #[.slice a rs.length cap] W fun e w'=>HsPost (hms rs) W e w'):=⟨fun W hW=>specCopy15 a rs cap W (hr.stays hW) hl (fun r hr'=>by have:=hsSum_mem (hs:=hms rs) (h:=r.h) (List.mem_map_of_mem hr');omega)⟩
 generalize cutX s t=CU at *
 obtain ⟨uts,okC⟩:=CU
 generalize plcX (hms rs) (all.length:Nat)=PG at *
 obtain ⟨ids,okP⟩:=PG
 unfold TPost8 at HCU
 unfold TPost at HEN
 unfold PlcPost at HPG
 dsimp only at *
 have HHL:Shut ((hms rs).length=rs.length):=⟨hms_len rs⟩
 generalize hms rs=hs at *
 obtain ⟨n,hn⟩:∃ n,n=rs.length:=⟨_,rfl⟩
 rw [<-hn] at HPG HCP HHL hl ⊢
 have HQ:=Shut.mk hR
 clear hr hf hz hR hn
 go_enter Tw.func5,Tw.ntmps5
 go_upto_region 2 with (go_at_call 12;refine (HCU.out _).mono ?_;rintro e w1 ⟨v1,rfl,hA,hb⟩;have HA1:=Shut.mk hA.see;have HB1:=Shut.mk hb;clear hA hb)
 go_upto_region 3 with (go_at_call 13;refine (HEN.out _ _ _ _ HA1.out).mono ?_;rintro e w2 ⟨v2,rfl,hA,hb⟩;have HA2:=Shut.mk hA;have HB2:=Shut.mk (HB1.out.trans (hb.mono HB1.out.size));have hs1:=HB1.out.size;clear hA hb HA1 HB1)
 obtain ⟨at2,ct2,rfl,hct2,hrow2⟩:=HA2.out
 have HT2:=Shut.mk (show SSee w2 (.slice at2 all.length ct2) all w.heap.size w2.heap.size from (show SAns w2 (.slice at2 all.length ct2) all w.heap.size w2.heap.size from ⟨at2,ct2,rfl,hct2,hrow2.imp id fun ⟨g,e,q1,q2,q3⟩=>⟨g,e,by omega,q2,q3⟩⟩).see)
 clear hct2 hrow2 HA2 hs1
 obtain ⟨na,hna⟩:∃ q,q=all.length:=⟨_,rfl⟩
 rw [<-hna] at HPG ⊢
 rw [<-hna] at HEL HPLen
 have hna6:na<=6:=HEL.out
 have HNA:=Shut.mk hna
 clear hna
 go_upto_region 4 with (go_at_call 14;refine (HPG.out _ HB2.out).mono ?_;rintro e w3 ⟨v3,rfl,hown,hb⟩;have HI3:=Shut.mk hown;have HB3:=Shut.mk (HB2.out.trans (hb.mono HB2.out.size));have HT3:=Shut.mk (HT2.out.below hb);clear hown hb HT2)
 obtain ⟨ai,ci,rfl⟩:=own_any3w HI3.out
 obtain ⟨ni,hni⟩:∃ q,q=ids.length:=⟨_,rfl⟩
 have hni6:ni<=na:=by rw [hni];exact HPLen.out
 have HID:Shut (CRow w3 ai (iv ids)):=⟨(FRw.of_own HI3.out).1.crow⟩
 have HNI:=Shut.mk (And.intro hni HNA.out)
 rw [<-hni] at HQ ⊢
 clear hni HI3 HEL HPLen
 cases okC with
 | false =>
  have HF:Shut (R=(hs,false)):=⟨by rw [HQ.out,if_neg (fun q=>by have:=HEC.out q.1;cases this)]⟩
  go_wp2_with (go_at_call 15;refine (HCP.out _ HB3.out).mono ?_;rintro e w9 hpost;obtain ⟨a9,c9,gs9,rfl,hm9,hc9,hwg⟩:=wr_of hpost;have hl9:gs9.length=n:=(by rw [<-hms_len,hm9];exact HHL.out);have H9:=Shut.mk hwg;have HC9:=Shut.mk (And.intro hm9 (And.intro hl9 hc9));rw [hl9];clear hpost hwg hm9 hc9 hl9)
  go_ret2
  exact ⟨a9,c9,gs9,by rw [HF.out,HC9.out.2.1];rfl,by rw [HF.out];exact HC9.out.1,HC9.out.2.2,H9.out.base HB3.out⟩
 | true =>
 cases okE with
 | false =>
  have HF:Shut (R=(hs,false)):=⟨by rw [HQ.out,if_neg (fun q=>by cases q.1)]⟩
  go_wp2_with (go_at_call 15;refine (HCP.out _ HB3.out).mono ?_;rintro e w9 hpost;obtain ⟨a9,c9,gs9,rfl,hm9,hc9,hwg⟩:=wr_of hpost;have hl9:gs9.length=n:=(by rw [<-hms_len,hm9];exact HHL.out);have H9:=Shut.mk hwg;have HC9:=Shut.mk (And.intro hm9 (And.intro hl9 hc9));rw [hl9];clear hpost hwg hm9 hc9 hl9)
  go_ret2
  exact ⟨a9,c9,gs9,by rw [HF.out,HC9.out.2.1];rfl,by rw [HF.out];exact HC9.out.1,HC9.out.2.2,H9.out.base HB3.out⟩
 | true =>
 cases okP with
 | false =>
  have HF:Shut (R=(hs,false)):=⟨by rw [HQ.out,if_neg (fun q=>by cases q.2)]⟩
  go_wp2_with (go_at_call 15;refine (HCP.out _ HB3.out).mono ?_;rintro e w9 hpost;obtain ⟨a9,c9,gs9,rfl,hm9,hc9,hwg⟩:=wr_of hpost;have hl9:gs9.length=n:=(by rw [<-hms_len,hm9];exact HHL.out);have H9:=Shut.mk hwg;have HC9:=Shut.mk (And.intro hm9 (And.intro hl9 hc9));rw [hl9];clear hpost hwg hm9 hc9 hl9)
  go_ret2
  exact ⟨a9,c9,gs9,by rw [HF.out,HC9.out.2.1];rfl,by rw [HF.out];exact HC9.out.1,HC9.out.2.2,H9.out.base HB3.out⟩
 | true =>
 replace HQ:Shut (R=wgEnd hs (putAll hs grp all ids ni)):=⟨by rw [HQ.out,if_pos ⟨rfl,rfl⟩]⟩
 go_upto_region 7 with (go_at_call 15;refine (HCP.out _ HB3.out).mono ?_;rintro e w9 hpost;obtain ⟨a9,c9,gs9,rfl,hm9,hc9,hwg⟩:=wr_of hpost;have hl9:gs9.length=n:=(by rw [<-hms_len,hm9];exact HHL.out);have H9:=Shut.mk hwg;have HC9:=Shut.mk (And.intro hm9 (And.intro hl9 hc9));rw [hl9];clear hpost hwg hm9 hc9 hl9)
 go_upto_region 8 with fail
 go_loopw [17] (fun i9 wr=>∃ (i:Nat),i9 = .int .i64 (i:Nat)/\i<=ni/\Shut (∃ gs,WgSt hs grp all ids n i w3 wr a9 gs)) (fun i9 _=>ni - (intOf i9).toNat)
 case atStart=>exact ⟨0,rfl,Nat.zero_le _,⟨gs9,by show some hs=_;rw [HC9.out.1],HC9.out.2.1,H9.out⟩⟩
 case round =>
  clear H9
  obtain ⟨i,rfl,hi,HW⟩:=hrel
  obtain ⟨gs,hwg⟩:=HW.out
  have HG:=Shut.mk hwg
  clear HW hwg
  by_cases hlt:i<ni
  case neg =>
   obtain rfl:ni=i:=by omega
   have HF:Shut (R=(hms gs,true)):=⟨by rw [HQ.out,HG.out.is,wgEnd_some]⟩
   go_wp2_with fail
   go_ret2
   exact ⟨a9,c9,gs,by rw [HF.out,HG.out.len];rfl,by rw [HF.out],by have:=HC9.out.2.2;have:=HC9.out.2.1;have:=HG.out.len;omega,HG.out.wr.base HB3.out⟩
  have hii:i<ids.length:=by rw [<-HNI.out.1];exact hlt
  have hia:i<all.length:=by rw [<-HNI.out.2];omega
  have hok:=HPO.out all ids HES.out HPM.out (by rw [<-HNI.out.1];omega) i (hms gs) (by omega) HG.out.is
  obtain ⟨x9,hx9⟩:∃ x,x=ids.getD i 0:=⟨_,rfl⟩
  have hxi:x9=ids[i]:=by rw [hx9,List.getD,List.getElem?_eq_getElem hii];rfl
  obtain ⟨k,hk⟩:∃ k,fstI hs x9=k:=⟨_,rfl⟩
  have hkg:k<gs.length:=by
   rw [<-hms_len,hok.len,<-hk]
   exact fst_lt (HPM.out x9 (by rw [hxi];exact List.getElem_mem hii))
  obtain ⟨bi,oi,rfl,lbi,hci⟩:=(HID.out.stays HG.out.wr.bel) (by rw [iv_len9w];omega)
  have d9:=hci i (.int .i64 x9) (by rw [hxi];simp [iv,hii])
  obtain ⟨bt,ot,rfl,lbt,hct⟩:∃ b off,at2=some ⟨b,off,none⟩/\b<w3.heap.size/\∀ j v,(tv all)[j]?=some v->w3.cell? ⟨b,off+j,none⟩=some v:=by
   obtain ⟨a9,c9',e9,hrow9⟩:=HT3.out
   cases e9
   exact hrow9.crow (by rw [tv_len];omega)
  have dt:=hct i _ (tv_get all i hia)
  obtain ⟨g9,rfl⟩:∃ g,a9=some ⟨g,0,none⟩:=by
   rcases HG.out.wr.row.2 with ⟨_,e⟩ | ⟨g,e,_⟩
   ·rw [e] at hkg;simp at hkg
   ·exact ⟨g,e⟩
  obtain ⟨b1,o1,r,e1,hre,lb1,hc1⟩:=hs_at HG.out.wr.row.row (Below.refl _ _) hkg
  simp only [Option.some.injEq,Addr.mk.injEq,and_true] at e1
  obtain ⟨rfl,rfl⟩:=e1
  obtain ⟨tx,htx⟩:∃ q,q=all.getD i ⟨#[]⟩:=⟨_,rfl⟩
  have htm:tx ∈ all:=by rw [htx];simp [List.getD,hia]
  have hts:tx.size<=200:=HES.out tx htm
  rw [<-htx] at dt
  have hrm:r.h ∈ hms gs:=by rw [hre];exact List.mem_map_of_mem (List.getElem_mem hkg)
  have hrf:=hok.fit _ hrm
  have hgi:(hms gs)[k]?=some r.h:=by rw [hre];simp [hms,hkg]
  have huw:uW grp all i=⟨grp,(i:Nat),tx,0⟩:=by unfold uW;rw [htx]
  have HCE:Shut (∀ x,Below wr.heap.size wr x->x.cell? ⟨g9,k*3,none⟩=some (.int .i64 r.h.id)/\x.cell? ⟨g9,k*3+1,none⟩=some (.bool r.h.up)/\x.cell? ⟨g9,k*3+2,none⟩=some (.slice r.loc r.h.us.length r.cap)/\x.cell? ⟨bt,ot+i,none⟩=some (.string tx)):=⟨fun x hx=>by
   obtain ⟨q0,q1,q2,_⟩:=hc1 x hx
   rw [Nat.zero_add] at q0 q1 q2
   exact ⟨q0,q1,q2,((HG.out.wr.bel.trans (hx.mono HG.out.wr.bel.size)).cell (p:=⟨bt,ot+i,none⟩) lbt).trans dt⟩⟩
  have HPU:Shut (∀ x,Below wr.heap.size wr x->Calls Tw.prog 17 #[hov r.h r.loc r.cap,unv ⟨grp,(i:Nat),tx,0⟩] x fun e w'=>HbPost (putX r.h ⟨grp,(i:Nat),tx,0⟩) x e w'):=⟨fun x hx=>specPutUnitL r.h r.loc r.cap _ x (hc1 x hx).2.2.2 (by omega) hrf.1 ⟨by show tx.size<=_;omega,⟨by show _<=grp;omega,by show grp<=_;omega⟩,⟨by show _<=(i:Int);omega,by show (i:Int)<=_;omega⟩,by show (-9223372036854775808:Int)<=0;omega,by show (0:Int)<=9223372036854775807;omega⟩ (by show tx.size<=_;omega)⟩
  have HYS:=Shut.mk (fun P hp=>putAll_yes (P:=P) HG.out.is (by rw [<-hx9];exact hk) hgi (by rw [huw];exact hp))
  have HNO:=Shut.mk (fun P hp=>putAll_no (P:=P) HG.out.is (by rw [<-hx9];exact hk) hgi (by rw [huw];exact hp))
  have HHO:=Shut.mk (specFst (some ⟨g9,0,none⟩) gs c9 k x9 wr HG.out.wr.row.row (by rw [HG.out.len];exact hl) (by rw [fst_same hok.ids];exact hk) hkg)
  rw [HG.out.len] at HHO
  generalize putX r.h ⟨grp,(i:Nat),tx,0⟩=PX at *
  obtain ⟨⟨pid,pup,pus⟩,pok⟩:=PX
  obtain ⟨⟨rid,rup,rus⟩,rl,rc⟩:=r
  unfold HbPost at HPU
  dsimp only [hov,unv] at HPU HCE
  obtain ⟨rn,hrn⟩:∃ q,q=rus.length:=⟨_,rfl⟩
  obtain ⟨pn,hpn⟩:∃ q,q=pus.length:=⟨_,rfl⟩
  rw [<-hrn] at HPU HCE
  rw [<-hpn] at HPU
  have HPN:=Shut.mk hpn
  have HKG:=Shut.mk hkg
  have i0:(0:Int)<=(i:Int):=by omega
  have i1:(i:Int)<(ni:Int):=by omega
  have i2:(i:Int)<(na:Int):=by omega
  have k0:(0:Int)<=(k:Int):=by omega
  have k7:(k:Int)<(n:Int):=by have:=HG.out.len;omega
  have k8:k<n:=by have:=HG.out.len;omega
  clear hci hct hc1 hre hrf hrm hgi huw hok htx htm hts dt hrn hpn hii hia hkg hk hx9 hxi
  go_upto_region 11 with (go_at_call 16;refine HHO.out.mono ?_;rintro e w5 ⟨rfl,hw5⟩;subst hw5)
  clear d9 HHO
  go_cut [19,20] from 66 to 80 (fun u8 u9 wq=>∃ (nb:Nat) (a8:Option Addr) (c8 lo hi:Nat),u8 = .pointer (some ⟨nb,0,none⟩)/\u9 = .bool pok/\Shut (SL w5 wq [bxS nb [.int .i64 pid,.bool pup,.slice a8 pn c8],rwS a8 (unS pus) lo hi])/\pn<=c8)
  case first =>
   have HTX:Shut (∀ x,Later w5.drew x->SL w5 x []):=⟨fun x hx=>(SL.start w5).below (Below.trans (Below.drew (Below.refl _ _)) hx)⟩
   have HLE:Shut (∀ x,Later w5.drew x->x.cell? ⟨g9,k*3,none⟩=some (.int .i64 rid)/\x.cell? ⟨g9,k*3+1,none⟩=some (.bool rup)/\x.cell? ⟨g9,k*3+2,none⟩=some (.slice rl rn rc)/\x.cell? ⟨bt,ot+i,none⟩=some (.string tx)):=⟨fun x hx=>HCE.out x (HTX.out x hx).bel⟩
   refine wp_region_set (fun j=>decide (j=12\/j=13\/j=14\/15<j)) (by kernel_rfl) ?_
   refine wpD_val (i:=0) (v:=?vr0) rfl (by kernel_rfl) (by kernel_rfl) (by kernel_rfl) (by kernel_rfl) (fun _ _ _ h=>h) (by rfl) ?hyr0 ?restr0
   case hyr0=>(intro x hx;obtain ⟨d0,d1,d2,d3⟩:=HLE.out x hx;go_simp;try with_reducible rfl)
   try simp only [Act.put,List.setIfInBounds_toArray,List.set_cons_zero,List.set_cons_succ]
   refine wpD_val (i:=1) (v:=?vr1) rfl (by kernel_rfl) (by kernel_rfl) (by kernel_rfl) (by kernel_rfl) (fun _ _ _ h=>h) (by rfl) ?hyr1 ?restr1
   case hyr1=>(intro x hx;obtain ⟨d0,d1,d2,d3⟩:=HLE.out x hx;go_simp;try with_reducible rfl)
   try simp only [Act.put,List.setIfInBounds_toArray,List.set_cons_zero,List.set_cons_succ]
   refine wpD_val (i:=2) (v:=?vr2) rfl (by kernel_rfl) (by kernel_rfl) (by kernel_rfl) (by kernel_rfl) (fun _ _ _ h=>h) (by rfl) ?hyr2 ?restr2
   case hyr2=>(intro x hx;obtain ⟨d0,d1,d2,d3⟩:=HLE.out x hx;go_simp;try with_reducible rfl)
   try simp only [Act.put,List.setIfInBounds_toArray,List.set_cons_zero,List.set_cons_succ]
   refine wpD_val (i:=3) (v:=?vr3) rfl (by kernel_rfl) (by kernel_rfl) (by kernel_rfl) (by kernel_rfl) (fun _ _ _ h=>h) (by rfl) ?hyr3 ?restr3
   case hyr3=>(intro x hx;obtain ⟨d0,d1,d2,d3⟩:=HLE.out x hx;go_simp;try with_reducible rfl)
   try simp only [Act.put,List.setIfInBounds_toArray,List.set_cons_zero,List.set_cons_succ]
   refine wpD_val (i:=4) (v:=?vr4) rfl (by kernel_rfl) (by kernel_rfl) (by kernel_rfl) (by kernel_rfl) (fun _ _ _ h=>h) (by rfl) ?hyr4 ?restr4
   case hyr4=>(intro x hx;obtain ⟨d0,d1,d2,d3⟩:=HLE.out x hx;go_simp;try with_reducible rfl)
   try simp only [Act.put,List.setIfInBounds_toArray,List.set_cons_zero,List.set_cons_succ]
   refine wpD_val (i:=5) (v:=?vr5) rfl (by kernel_rfl) (by kernel_rfl) (by kernel_rfl) (by kernel_rfl) (fun _ _ _ h=>h) (by rfl) ?hyr5 ?restr5
   case hyr5=>(intro x hx;obtain ⟨d0,d1,d2,d3⟩:=HLE.out x hx;go_simp;try with_reducible rfl)
   try simp only [Act.put,List.setIfInBounds_toArray,List.set_cons_zero,List.set_cons_succ]
   refine wpD_val (i:=6) (v:=?vr6) rfl (by kernel_rfl) (by kernel_rfl) (by kernel_rfl) (by kernel_rfl) (fun _ _ _ h=>h) (by rfl) ?hyr6 ?restr6
   case hyr6=>(intro x hx;obtain ⟨d0,d1,d2,d3⟩:=HLE.out x hx;go_simp;try with_reducible rfl)
   try simp only [Act.put,List.setIfInBounds_toArray,List.set_cons_zero,List.set_cons_succ]
   refine wpD_val (i:=7) (v:=?vr7) rfl (by kernel_rfl) (by kernel_rfl) (by kernel_rfl) (by kernel_rfl) (fun _ _ _ h=>h) (by rfl) ?hyr7 ?restr7
   case hyr7=>(intro x hx;obtain ⟨d0,d1,d2,d3⟩:=HLE.out x hx;go_simp;try with_reducible rfl)
   try simp only [Act.put,List.setIfInBounds_toArray,List.set_cons_zero,List.set_cons_succ]
   refine wpD_val (i:=8) (v:=?vr8) rfl (by kernel_rfl) (by kernel_rfl) (by kernel_rfl) (by kernel_rfl) (fun _ _ _ h=>h) (by rfl) ?hyr8 ?restr8
   case hyr8=>(intro x hx;obtain ⟨d0,d1,d2,d3⟩:=HLE.out x hx;go_simp;try with_reducible rfl)
   try simp only [Act.put,List.setIfInBounds_toArray,List.set_cons_zero,List.set_cons_succ]
   refine wpD_val (i:=9) (v:=?vr9) rfl (by kernel_rfl) (by kernel_rfl) (by kernel_rfl) (by kernel_rfl) (fun _ _ _ h=>h) (by rfl) ?hyr9 ?restr9
   case hyr9=>(intro x hx;obtain ⟨d0,d1,d2,d3⟩:=HLE.out x hx;go_simp;try with_reducible rfl)
   try simp only [Act.put,List.setIfInBounds_toArray,List.set_cons_zero,List.set_cons_succ]
   refine wpD_val (i:=10) (v:=?vr10) rfl (by kernel_rfl) (by kernel_rfl) (by kernel_rfl) (by kernel_rfl) (fun _ _ _ h=>h) (by rfl) ?hyr10 ?restr10
   case hyr10=>(intro x hx;obtain ⟨d0,d1,d2,d3⟩:=HLE.out x hx;go_simp;try with_reducible rfl)
   try simp only [Act.put,List.setIfInBounds_toArray,List.set_cons_zero,List.set_cons_succ]
   refine wpD_callbox (f:=17) (args:=#[.agg #[.int .i64 rid,.bool rup,.slice rl rn rc],.agg #[.int .i64 grp,.int .i64 (i:Nat),.string tx,.int .i64 0]]) (C:=#[.int .i64 0,.bool false,.slice none 0 0]) (t:=45) (i:=11) (j:=15) (by kernel_rfl) rfl rfl (by rfl) (by rfl) (fun x hx=>by go_simp) (fun x hx=>by kernel_rfl) (fun x hx=>(HPU.out x (HTX.out x hx).bel).mono ?_) (fun x hx=>?_)
   ·rintro e y2 ⟨a8,c8,rfl,hF,hc8,hb2⟩
    refine ⟨_,rfl,hb2,?_⟩
    have HY:=Shut.mk ((HTX.out x hx).add (s:=rwS a8 (unS pus) _ _) hb2 hF (rwS.loc _ _ _ _) (Nat.le_refl _) (Nat.le_refl _))
    clear hF hb2 hx
    try simp only [Act.put,List.setIfInBounds_toArray,List.set_cons_zero,List.set_cons_succ]
    refine wpD_pure (i:=12) (v:=?va12) rfl (by kernel_rfl) (by kernel_rfl) (by kernel_rfl) (by kernel_rfl) (fun _ _ _ h=>h) (by rfl) ?hya12 ?resta12
    case hya12=>(intro x;go_simp;try with_reducible rfl)
    try simp only [Act.put,List.setIfInBounds_toArray,List.set_cons_zero,List.set_cons_succ]
    refine wpD_pure (i:=13) (v:=?va13) rfl (by kernel_rfl) (by kernel_rfl) (by kernel_rfl) (by kernel_rfl) (fun _ _ _ h=>h) (by rfl) ?hya13 ?resta13
    case hya13=>(intro x;go_simp;try with_reducible rfl)
    try simp only [Act.put,List.setIfInBounds_toArray,List.set_cons_zero,List.set_cons_succ]
    refine wpD_pure (i:=14) (v:=?va14) rfl (by kernel_rfl) (by kernel_rfl) (by kernel_rfl) (by kernel_rfl) (fun _ _ _ h=>h) (by rfl) ?hya14 ?resta14
    case hya14=>(intro x;go_simp;try with_reducible rfl)
    try simp only [Act.put,List.setIfInBounds_toArray,List.set_cons_zero,List.set_cons_succ]
    refine wpD_one (i:=15) (by kernel_rfl) rfl (by rfl) (fun x2 hx2=>⟨.pointer (some ⟨x2.heap.size,0,none⟩),x2.alloc (.cells #[.int .i64 0,.bool false,.slice none 0 0] 45),by kernel_rfl,(Below.refl _ _).alloc (Nat.le_refl _) _,?_⟩)
    have HY2:=Shut.mk ((HY.out.below hx2).new #[.int .i64 0,.bool false,.slice none 0 0] 45)
    obtain ⟨nb,hnb⟩:∃ nb,nb=x2.heap.size:=⟨_,rfl⟩
    rw [<-hnb] at HY2 ⊢
    clear hx2 hnb HY
    try simp only [Act.put,List.setIfInBounds_toArray,List.set_cons_zero,List.set_cons_succ]
    refine wpD_tail (by kernel_rfl) ?_
    intro x5 hx5
    have HY3:=Shut.mk (HY2.out.below hx5)
    obtain ⟨q0,qf0⟩:=HY3.out.bx 0 rfl 0 _ rfl
    obtain ⟨q1,qf1⟩:=HY3.out.bx 0 rfl 1 _ rfl
    obtain ⟨q2,qf2⟩:=HY3.out.bx 0 rfl 2 _ rfl
    refine wpA_step (y:=((x5.setCell ⟨nb,0,none⟩ (.int .i64 pid)).setCell ⟨nb,1,none⟩ (.bool pup)).setCell ⟨nb,2,none⟩ (.slice a8 pn c8)) (i:=16) (by kernel_rfl) rfl (by rfl) (by go_simp) ?_
    have HZ:=Shut.mk (((HY3.out.put 0 rfl 0 (.int .i64 pid) (by simp)).put 0 rfl 1 (.bool pup) (by simp)).put 0 rfl 2 (.slice a8 pn c8) (by simp))
    clear q0 qf0 q1 qf1 q2 qf2 hx5 HY2 HY3
    simp only [List.set_cons_zero,List.set_cons_succ] at HZ
    simp only [Act.put]
    refine wpA_val (i:=17) (v:=.bool pok) rfl (by kernel_rfl) (by kernel_rfl) (by kernel_rfl) (fun _ _ _ h=>h) (by rfl) (fun x=>by go_simp) ?_
    try simp only [Act.put,List.setIfInBounds_toArray,List.set_cons_zero,List.set_cons_succ]
    refine wpA_done (by kernel_rfl) ?_ _
    go_wp2_with fail
    go_meet
    case rel=>exact ⟨nb,a8,c8,_,_,rfl,rfl,⟨HZ.out⟩,hc8⟩
   ·have HW:=Shut.mk ((HTX.out x hx).new #[.int .i64 0,.bool false,.slice none 0 0] 45)
    obtain ⟨nb,hnb⟩:∃ nb,nb=x.heap.size:=⟨_,rfl⟩
    rw [<-hnb] at HW ⊢
    generalize x.alloc (.cells #[.int .i64 0,.bool false,.slice none 0 0] 45)=xx at HW ⊢
    clear hnb hx
    try simp only [Act.put,List.setIfInBounds_toArray,List.set_cons_zero,List.set_cons_succ]
    refine wpD_onecall (f:=17) (args:=#[.agg #[.int .i64 rid,.bool rup,.slice rl rn rc],.agg #[.int .i64 grp,.int .i64 (i:Nat),.string tx,.int .i64 0]]) (i:=11) (by kernel_rfl) rfl (by rfl) (fun x hx=>by go_simp) (fun x hx=>(HPU.out x (HW.out.below hx).bel).mono ?_)
    rintro e y2 ⟨a8,c8,rfl,hF,hc8,hb2⟩
    refine ⟨_,rfl,hb2,?_⟩
    have HY2:=Shut.mk ((HW.out.below hx).add (s:=rwS a8 (unS pus) _ _) hb2 hF (rwS.loc _ _ _ _) (Nat.le_refl _) (Nat.le_refl _))
    clear hF hb2 hx HW
    try simp only [Act.put,List.setIfInBounds_toArray,List.set_cons_zero,List.set_cons_succ]
    refine wpD_pure (i:=12) (v:=?vb12) rfl (by kernel_rfl) (by kernel_rfl) (by kernel_rfl) (by kernel_rfl) (fun _ _ _ h=>h) (by rfl) ?hyb12 ?restb12
    case hyb12=>(intro x;go_simp;try with_reducible rfl)
    try simp only [Act.put,List.setIfInBounds_toArray,List.set_cons_zero,List.set_cons_succ]
    refine wpD_pure (i:=13) (v:=?vb13) rfl (by kernel_rfl) (by kernel_rfl) (by kernel_rfl) (by kernel_rfl) (fun _ _ _ h=>h) (by rfl) ?hyb13 ?restb13
    case hyb13=>(intro x;go_simp;try with_reducible rfl)
    try simp only [Act.put,List.setIfInBounds_toArray,List.set_cons_zero,List.set_cons_succ]
    refine wpD_pure (i:=14) (v:=?vb14) rfl (by kernel_rfl) (by kernel_rfl) (by kernel_rfl) (by kernel_rfl) (fun _ _ _ h=>h) (by rfl) ?hyb14 ?restb14
    case hyb14=>(intro x;go_simp;try with_reducible rfl)
    try simp only [Act.put,List.setIfInBounds_toArray,List.set_cons_zero,List.set_cons_succ]
    refine wpD_tail (by kernel_rfl) ?_
    intro x5 hx5
    have HY3:=Shut.mk (HY2.out.below hx5)
    obtain ⟨q0,qf0⟩:=HY3.out.bx 1 rfl 0 _ rfl
    obtain ⟨q1,qf1⟩:=HY3.out.bx 1 rfl 1 _ rfl
    obtain ⟨q2,qf2⟩:=HY3.out.bx 1 rfl 2 _ rfl
    refine wpA_step (y:=((x5.setCell ⟨nb,0,none⟩ (.int .i64 pid)).setCell ⟨nb,1,none⟩ (.bool pup)).setCell ⟨nb,2,none⟩ (.slice a8 pn c8)) (i:=16) (by kernel_rfl) rfl (by rfl) (by go_simp) ?_
    have HZ:=Shut.mk (((HY3.out.put 1 rfl 0 (.int .i64 pid) (by simp)).put 1 rfl 1 (.bool pup) (by simp)).put 1 rfl 2 (.slice a8 pn c8) (by simp))
    clear q0 qf0 q1 qf1 q2 qf2 hx5 HY2 HY3
    simp only [List.set_cons_zero,List.set_cons_succ] at HZ
    simp only [Act.put]
    refine wpA_val (i:=17) (v:=.bool pok) rfl (by kernel_rfl) (by kernel_rfl) (by kernel_rfl) (fun _ _ _ h=>h) (by rfl) (fun x=>by go_simp) ?_
    try simp only [Act.put,List.setIfInBounds_toArray,List.set_cons_zero,List.set_cons_succ]
    refine wpA_done (by kernel_rfl) ?_ _
    go_wp2_with fail
    go_meet
    case rel=>exact ⟨nb,a8,c8,_,_,rfl,rfl,⟨HZ.out.swap⟩,hc8⟩
  case rest =>
   obtain ⟨nb,a8,c8,lo,hi,rfl,rfl,HS,hc8⟩:=hcut
   have HBQ:=Shut.mk HS.out.bel
   cases pok with
   | false =>
    have HF:Shut (R=(hs,false)):=⟨by rw [HQ.out,putAll_stop (HNO.out _ rfl) ni (by omega),wgEnd_none]⟩
    have HBW:Shut (Below w.heap.size w wc):=⟨HB3.out.trans ((HG.out.wr.bel.trans (HBQ.out.mono HG.out.wr.bel.size)).mono HB3.out.size)⟩
    clear HS
    go_wp2_with (go_at_call 15;refine (HCP.out _ HBW.out).mono ?_;rintro e w8 hpost;obtain ⟨a7,c7,gs7,rfl,hm7,hc7,hwg⟩:=wr_of hpost;have hl7:gs7.length=n:=(by rw [<-hms_len,hm7];exact HHL.out);have H7:=Shut.mk hwg;have HC7:=Shut.mk (And.intro hm7 (And.intro hl7 hc7));rw [hl7];clear hpost hwg hm7 hc7 hl7)
    go_ret2
    exact ⟨a7,c7,gs7,by rw [HF.out,HC7.out.2.1];rfl,by rw [HF.out];exact HC7.out.1,HC7.out.2.2,H7.out.base HBW.out⟩
   | true =>
    obtain ⟨x0,_⟩:=HS.out.bx 0 rfl 0 _ rfl
    obtain ⟨x1,_⟩:=HS.out.bx 0 rfl 1 _ rfl
    obtain ⟨x2,_⟩:=HS.out.bx 0 rfl 2 _ rfl
    have hrw:=HS.out.is _ (List.mem_of_getElem? (show _[1]?=some (rwS a8 (unS pus) lo hi) from rfl))
    obtain ⟨g8,hg8,hnw⟩:=HG.out.wr.host HBQ.out k HKG.out ⟨pid,pup,pus⟩ a8 c8 (frw_wide (show FRw _ _ (unS pus) lo hi from hrw.1) hrw.2.2.1 hrw.2.2.2) (by rw [<-HPN.out];exact hc8)
    simp only [Option.some.injEq,Addr.mk.injEq,and_true] at hg8
    subst hg8
    have HNW:=Shut.mk hnw
    clear hnw
    unfold hC at HNW
    dsimp only at HNW
    rw [setW3,<-HPN.out] at HNW
    obtain ⟨gq,egq,hgq⟩:∃ g,g9=g/\GW HK wc g gs w3.heap.size wc.heap.size:=by
     rcases (HG.out.wr.below HBQ.out).row.2 with ⟨e,_⟩ | ⟨g,e,hg⟩
     ·cases e
     ·simp only [Option.some.injEq,Addr.mk.injEq,and_true] at e
      exact ⟨g,e,hg⟩
    subst egq
    have hwo:=hgq.out
    obtain ⟨y0,z0⟩:=hwo.2 (k*3) _ (flat_get hC_len gs k HKG.out 0 (by omega))
    obtain ⟨y1,z1⟩:=hwo.2 (k*3+1) _ (flat_get hC_len gs k HKG.out 1 (by omega))
    obtain ⟨y2,z2⟩:=hwo.2 (k*3+2) _ (flat_get hC_len gs k HKG.out 2 (by omega))
    have HX:Shut (WgSt hs grp all ids n (i+1) w3 _ (some ⟨g9,0,none⟩) (gs.set k ⟨⟨pid,pup,pus⟩,a8,c8⟩)):=⟨⟨by rw [HYS.out _ rfl];unfold hms;rw [List.map_set],by rw [List.length_set];exact HG.out.len,HNW.out⟩⟩
    clear hwo hgq hrw HS
    go_wp2_with fail
    go_roundw
    case rel=>exact ⟨i+1,by go_num,by omega,⟨_,HX.out⟩⟩
    case measure=>simp [intOf];omega
end Go.Proofs.YteaieagkjepgiaaGreatDoorT
