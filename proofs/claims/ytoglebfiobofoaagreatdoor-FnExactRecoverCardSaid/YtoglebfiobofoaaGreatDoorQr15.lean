/- Texts of ours, laid one behind the other: StY, StZ. -/
import Derived.Test.YtoglebfiobofoaaGreatDoorQrStX
import Derived.Test.YtoglebfiobofoaaGreatDoorQr11
/- StY: . -/
namespace Go.Proofs.YtoglebfiobofoaaGreatDoor
set_option maxRecDepth 100000
set_option maxHeartbeats 16000000
open Go.RowKit
attribute [local go_sem ↓] Go.wp_at_zero Go.wp_at_succ
theorem stp_zero {T:TM} {e:EM} {g:Int} (h:(stpX T e g).2.2=0):qae (stpX T e g).1=true/\1<=g/\g<=99000/\0<=(stpX T e g).2.1/\(stpX T e g).2.1<=1000:=by
 unfold stpX at h ⊢
 by_cases h1:mayX T e g=false
 ·rw [if_pos h1] at h
  exact absurd h (by decide)
 rw [if_neg h1] at h ⊢
 obtain ⟨-,hE,g1,g2⟩:=qoj (by simpa using h1:mayX T e g=true)
 by_cases h2:findX T (mustP e)=0
 ·rw [if_pos h2] at h
  exact absurd h (by decide)
 rw [if_neg h2] at h ⊢
 by_cases h3:refX T e (ndAt T (plc T (findX T (mustP e)))) ≠ 0
 ·rw [if_pos h3] at h
  exact absurd h h3
 rw [if_neg h3] at h ⊢
 by_cases h4:qae (chT T e (plc T (findX T (mustP e))) g)=false
 ·rw [if_pos h4] at h
  exact absurd h (by decide)
 rw [if_neg h4]
 refine ⟨by simpa using h4,g1,g2,?_⟩
 dsimp only
 unfold takX
 split
 ·rename_i k7
  have hn7:=(qes hE (by omega)).2.2.2.2.2.1 k7
  have:=qjz (ndAt T (plc T (findX T (mustP e)))).schema e.num (by omega)
  omega
 split <;> omega
attribute [local irreducible] qae stpX qam qba
end Go.Proofs.YtoglebfiobofoaaGreatDoor
/- StZ: . -/
namespace Go.Proofs.YtoglebfiobofoaaGreatDoor
set_option maxRecDepth 100000
set_option maxHeartbeats 16000000
open Go.RowKit
attribute [local go_sem ↓] Go.wp_at_zero Go.wp_at_succ
attribute [local irreducible] qae stpX qam qba allX
variable {T:TM} {v:Value} {w:World}
theorem AL.new {w W:World} {L:List (Nat × List Value)} {ob:Nat} (h:AL w W L ob v T) (cs:Array Value) (t:TypeId):AL w (W.alloc (.cells cs t)) ((W.heap.size,cs.toList)::L) ob v T:=
 ⟨h.mb.new cs t,(h.below ((Below.refl _ _).alloc (Nat.le_refl _) _)).ans,h.fit⟩
theorem implApplyAll {lo hi:Nat} (la:Option Addr) (lc:Nat) (es:List EM) (l1 l2:Nat) (gr:Int) (h:TSee w v T lo hi) (hf:NFit T) (hI:NInt T.nodes) (hE:RRow w la (ecs es) l1 l2) (he:∀ e ∈ es,EFit e) (hel:es.length<=1048576):Calls Tryz.prog 37 #[v,.slice la es.length lc,.int .i64 gr] w fun r w'=>qdw (allX T es gr) w r w':=by
 have HCP:=Sh.mk (fun (W:World) (hb:Below w.heap.size w W)=>qpw (h.below hb) hf)
 have HF:=Sh.mk (And.intro hf hI)
 obtain ⟨R,hR⟩:∃ R,R=allX T es gr:=⟨_,rfl⟩
 rw [<-hR]
 have HR:=Sh.mk hR
 unfold CpPost at HCP
 obtain ⟨a,cap,rs,rfl,hr,hm⟩:=h
 obtain ⟨n,hn⟩:∃ n,n=rs.length:=⟨_,rfl⟩
 obtain ⟨nx,hnx⟩:∃ nx,nx=T.next:=⟨_,rfl⟩
 rw [<-hn,<-hnx] at HCP ⊢
 have HNX:=Sh.mk hnx
 have HE:=Sh.mk hE
 have HFE:=Sh.mk he
 obtain ⟨ln,hln⟩:∃ n,n=es.length:=⟨_,rfl⟩
 rw [<-hln] at hel ⊢
 have HLN:=Sh.mk hln
 clear hn hm hr hf hI hE he hR hln hnx
 go_enter Tryz.func37,Tryz.ntmps37
 go_upto_region 1 with fail
 obtain ⟨tb,htb⟩:∃ tb,tb=w.heap.size:=⟨_,rfl⟩
 obtain ⟨rb,hrb⟩:∃ rb,rb=w.heap.size+1:=⟨_,rfl⟩
 refine qaa (fun W=>MB w W [(rb,[.slice none 0 0,.int .i64 0]),(tb,[.slice a n cap,.int .i64 nx])]) (by rw [hrb,htb];exact MB.two w #[.slice a n cap,.int .i64 nx] #[.slice none 0 0,.int .i64 0] 42 42) ?_
 intro W0 hM
 have HM:=Sh.mk hM
 rw [<-hrb,<-htb]
 have HRB:=Sh.mk hrb
 clear hM htb hrb
 have x0:=((HM.1.at 1 rfl).1.2 0 _ rfl).1
 have x1:=((HM.1.at 1 rfl).1.2 1 _ rfl).1
 have hw0:=Sh.mk (HM.1.at 0 rfl).1.1
 go_upto_region 2 with (go_at_call 79;refine (HCP.1 _ HM.1.bel).mono ?_;rintro e w1 ⟨a5,c5,rs5,rfl,hr5,hnb5,hb1⟩;have HANS:=Sh.mk (hnb5.ans (w:=W0) (nx:=nx) hr5 (Nat.le_refl _));replace HM:=Sh.mk (HM.1.below hb1);clear hr5 hnb5 hb1 x0 x1)
 obtain ⟨m5,hm5⟩:∃ m,m=rs5.length:=⟨_,rfl⟩
 obtain ⟨nb,hnb⟩:∃ m,m=w1.heap.size:=⟨_,rfl⟩
 rw [<-hm5] at HANS ⊢
 rw [<-hnb]
 refine qaa (fun W=>AL w W ((nb,[.slice a5 m5 c5,.int .i64 nx])::[(rb,[.slice none 0 0,.int .i64 0]),(tb,[.slice a n cap,.int .i64 nx])]) nb (.agg #[.slice a5 m5 c5,.int .i64 nx]) T) (by
  refine ⟨by rw [hnb];exact HM.1.new #[.slice a5 m5 c5,.int .i64 nx] 42,⟨W0.heap.size,w1.heap.size,?_,by have:=hw0.1;have:=HRB.1;omega,.inl (by omega),by simp⟩,HF.1.1⟩
  have q:=HANS.1.below ((Below.refl _ _).alloc (Nat.le_refl _) (.cells #[.slice a5 m5 c5,.int .i64 nx] 42))
  rw [HNX.1] at q ⊢
  exact q) ?_
 rintro W1 hA1
 have HAL:=Sh.mk hA1
 clear hA1 HM HANS hm5 hnb hw0 HCP
 go_wp2_with fail
 go_loopw [2,18] (fun gv iv wr=>∃ (k:Nat) (g:Int) (ka:Option Addr) (km kc:Nat) (Tk:TM) (kx:Int),gv = .int .i64 g/\iv = .int .i64 k/\k<=ln/\Sh (allX T (es.take k) gr=(Tk,g))/\Sh (AL w wr ((nb,[.slice ka km kc,.int .i64 kx])::[(rb,[.slice none 0 0,.int .i64 0]),(tb,[.slice a n cap,.int .i64 nx])]) nb (.agg #[.slice ka km kc,.int .i64 kx]) Tk)/\Sh (kx=Tk.next)/\Sh (NInt Tk.nodes)) (fun _ iv _=>ln - (intOf iv).toNat)
 case atStart=>exact ⟨0,gr,_,_,_,T,nx,rfl,rfl,Nat.zero_le _,⟨by unfold allX;simp⟩,HAL,HNX,⟨HF.1.2⟩⟩
 case round =>
  clear HAL
  obtain ⟨k,g,ka,km,kc,Tk,kx,rfl,rfl,hk,HTK,HA,HKX,HNI⟩:=hrel
  have k0:(0:Int)<=(k:Int):=by omega
  by_cases hlt:k<ln
  case pos =>
   have k1:(k:Int)<(ln:Int):=by omega
   have hkl:k<es.length:=by have:=HLN.1;omega
   have hst:=qpq T es gr k hkl
   rw [HTK.1] at hst
   obtain ⟨b,off,hla,lb,hc⟩:=qst HE.1 (by omega)
   subst hla
   have hce:=hc k hkl
   have HEF:=Sh.mk (HFE.1 _ (List.getElem_mem hkl))
   obtain ⟨e,hee⟩:∃ e,e=es[k]:=⟨_,rfl⟩
   rw [<-hee] at hst hce HEF
   clear hee hc hkl
   obtain ⟨kind,path,dest,num,who⟩:=e
   dsimp only at hce
   obtain ⟨lo9,hi9,hans9,hlo9,hob9,hhi9⟩:=HA.1.ans
   have hB:=HA.1.mb.bel
   have c0:=(hB.cell (p:=⟨b,off+k*5,none⟩) lb).trans hce.1
   have c1:=(hB.cell (p:=⟨b,off+k*5+1,none⟩) lb).trans hce.2.1
   have c2:=(hB.cell (p:=⟨b,off+k*5+2,none⟩) lb).trans hce.2.2.1
   have c3:=(hB.cell (p:=⟨b,off+k*5+3,none⟩) lb).trans hce.2.2.2.1
   have c4:=(hB.cell (p:=⟨b,off+k*5+4,none⟩) lb).trans hce.2.2.2.2
   have HSE:=Sh.mk hans9.see
   have HST:=Sh.mk (fun (W:World) (hb:Below wr.heap.size wr W)=>implStep ⟨kind,path,dest,num,who⟩ g (HSE.1.below hb) HA.1.fit HNI.1 HEF.1)
   have hsa:=stp_apply Tk ⟨kind,path,dest,num,who⟩ g
   have hzz:=@stp_zero Tk ⟨kind,path,dest,num,who⟩ g
   have hstp:allX T (es.take (k+1)) gr=if (qam Tk ⟨kind,path,dest,num,who⟩ g).2=0 then ((qam Tk ⟨kind,path,dest,num,who⟩ g).1,qba Tk ⟨kind,path,dest,num,who⟩ g) else (Tk,g):=hst
   obtain ⟨RT,tk,rc,hRR⟩:∃ RT tk rc,stpX Tk ⟨kind,path,dest,num,who⟩ g=(RT,tk,rc):=⟨_,_,_,rfl⟩
   rw [hRR] at HST hsa hzz
   dsimp only at hsa hzz
   rw [<-hsa.2.2.2,<-hsa.1] at hstp
   have HSP:Sh (allX T (es.take (k+1)) gr=if rc=0 then (RT,g+tk) else (Tk,g)):=⟨by
    rw [hstp]
    by_cases q:rc=0
    ·rw [if_pos q,if_pos q,hsa.2.1 (hsa.1.symm.trans q)]
    ·rw [if_neg q,if_neg q]⟩
   have HZZ:=Sh.mk hzz
   unfold qta at HST
   clear hst hstp hsa hRR hans9 hlo9 hob9 hhi9 hB hce HSE hzz
   go_upto_region 5 with fail
   obtain ⟨kb,hkb⟩:∃ kb,kb=wr.heap.size:=⟨_,rfl⟩
   rw [<-hkb]
   refine qaa (fun W=>AL w W ((kb,[.int .i64 kind,.string path,.string dest,.int .i64 num,.int .i64 who])::((nb,[.slice ka km kc,.int .i64 kx])::[(rb,[.slice none 0 0,.int .i64 0]),(tb,[.slice a n cap,.int .i64 nx])])) nb (.agg #[.slice ka km kc,.int .i64 kx]) Tk/\Below wr.heap.size wr W) ⟨by rw [hkb];exact HA.1.new #[.int .i64 kind,.string path,.string dest,.int .i64 num,.int .i64 who] 33,(Below.refl _ _).alloc (Nat.le_refl _) _⟩ ?_
   rintro w2 ⟨hA2,hb2⟩
   replace HA:=Sh.mk hA2
   have HB2:=Sh.mk hb2
   clear hA2 hb2 hkb c0 c1 c2 c3 c4
   have e0:=((HA.1.mb.at 0 rfl).1.2 0 _ rfl).1
   have e1:=((HA.1.mb.at 0 rfl).1.2 1 _ rfl).1
   have e2:=((HA.1.mb.at 0 rfl).1.2 2 _ rfl).1
   have e3:=((HA.1.mb.at 0 rfl).1.2 3 _ rfl).1
   have e4:=((HA.1.mb.at 0 rfl).1.2 4 _ rfl).1
   have d0:=((HA.1.mb.at 1 rfl).1.2 0 _ rfl).1
   have d1:=((HA.1.mb.at 1 rfl).1.2 1 _ rfl).1
   have HN2:=Sh.mk (And.intro (HA.1.mb.at 1 rfl).1.1 (HA.1.mb.at 2 rfl).1.1)
   go_upto_region 6 with (go_at_call 80;refine (HST.1 _ HB2.1).mono ?_;rintro e w5 ⟨vv,rfl,hans,hb5⟩;obtain ⟨a5,c5,rs5,rfl,hr5,hc5,hq5⟩:=hans.see_form;have HAN:=Sh.mk hans;have HB5:=Sh.mk hb5;replace HA:=Sh.mk (HA.1.below hb5);clear hr5 hc5 hq5 hans hb5 e0 e1 e2 e3 e4 d0 d1)
   obtain ⟨m5,hm5⟩:∃ m,m=rs5.length:=⟨_,rfl⟩
   obtain ⟨t5,ht5⟩:∃ m,m=RT.next:=⟨_,rfl⟩
   obtain ⟨jb,hjb⟩:∃ m,m=w5.heap.size:=⟨_,rfl⟩
   rw [<-hm5,<-ht5] at HAN ⊢
   rw [<-hjb]
   refine qaa (fun W=>AL w W ((jb,[.slice a5 m5 c5,.int .i64 t5])::(kb,[.int .i64 kind,.string path,.string dest,.int .i64 num,.int .i64 who])::((nb,[.slice ka km kc,.int .i64 kx])::[(rb,[.slice none 0 0,.int .i64 0]),(tb,[.slice a n cap,.int .i64 nx])])) nb (.agg #[.slice ka km kc,.int .i64 kx]) Tk/\TAns W (.agg #[.slice a5 m5 c5,.int .i64 t5]) RT w2.heap.size W.heap.size) ⟨by rw [hjb];exact HA.1.new #[.slice a5 m5 c5,.int .i64 t5] 42,(HAN.1.below ((Below.refl _ _).alloc (Nat.le_refl _) _)).wide (Nat.le_refl _) (by simp)⟩ ?_
   rintro w6 ⟨hA6,ha6⟩
   replace HA:=Sh.mk hA6
   replace HAN:=Sh.mk ha6
   have HT5:=Sh.mk ht5
   clear hA6 ha6 hm5 ht5 hjb HB5
   have d0:=((HA.1.mb.at 0 rfl).1.2 0 _ rfl).1
   have d1:=((HA.1.mb.at 0 rfl).1.2 1 _ rfl).1
   obtain ⟨r0,rf0⟩:=(HA.1.mb.at 2 rfl).1.2 0 _ rfl
   obtain ⟨r1,rf1⟩:=(HA.1.mb.at 2 rfl).1.2 1 _ rfl
   by_cases hz:rc=0
   case neg =>
    have z1:(rc==0)=false:=by simp [hz]
    have z3:decide (rc=0)=false:=by simp [hz]
    have HS1:Sh (allX T (es.take (k+1)) gr=(Tk,g)):=⟨by rw [HSP.1,if_neg hz]⟩
    have HA9:Sh (AL w w6 ((nb,[.slice ka km kc,.int .i64 kx])::[(rb,[.slice none 0 0,.int .i64 0]),(tb,[.slice a n cap,.int .i64 nx])]) nb (.agg #[.slice ka km kc,.int .i64 kx]) Tk):=⟨⟨HA.1.mb.less.less,HA.1.ans,HA.1.fit⟩⟩
    go_wp2_with fail
    go_roundw
    case rel=>exact ⟨k+1,g,ka,km,kc,Tk,kx,rfl,by go_num,by omega,HS1,HA9,HKX,HNI⟩
    case measure=>simp [intOf];omega
   case pos =>
   subst hz
   obtain ⟨hok,hg1,hg2,ht1,ht2⟩:=HZZ.1 rfl
   have HS1:Sh (allX T (es.take (k+1)) gr=(RT,g+tk)):=⟨by rw [HSP.1,if_pos rfl]⟩
   have HOK:=Sh.mk hok
   have gb1:-9223372036854775808<=g+tk:=by omega
   have gb2:g+tk<=9223372036854775807:=by omega
   clear hok
   have HA9:Sh (AL w ((w6.setCell ⟨nb,0,none⟩ (.slice a5 m5 c5)).setCell ⟨nb,1,none⟩ (.int .i64 t5)) ((nb,[.slice a5 m5 c5,.int .i64 t5])::[(rb,[.slice none 0 0,.int .i64 0]),(tb,[.slice a n cap,.int .i64 nx])]) nb (.agg #[.slice a5 m5 c5,.int .i64 t5]) RT):=⟨by
    have M2:=((HA.1.mb.less.less).put 0 rfl 0 (.slice a5 m5 c5) (by simp)).put 0 rfl 1 (.int .i64 t5) (by simp)
    have hn2:=HN2.1
    refine ⟨M2,⟨w2.heap.size,w6.heap.size,(HAN.1.box nb 0 _ hn2.1).box nb 1 _ hn2.1,?_,.inr hn2.1,by simp⟩,qeg HOK.1⟩
    have:=HRB.1
    omega⟩
   go_wp2_with fail
   go_roundw
   case rel=>exact ⟨k+1,g+tk,a5,m5,c5,RT,t5,rfl,by go_num,by omega,HS1,HA9,HT5,⟨qem HOK.1⟩⟩
   case measure=>simp [intOf];omega
  case neg =>
   have k1:¬ ((k:Int)<(ln:Int)):=by omega
   have hall:es.take k=es:=List.take_of_length_le (by have:=HLN.1;omega)
   rw [hall,<-HR.1] at HTK
   obtain ⟨z0,zf0⟩:=(HA.1.mb.at 0 rfl).1.2 0 _ rfl
   obtain ⟨z1,zf1⟩:=(HA.1.mb.at 0 rfl).1.2 1 _ rfl
   obtain ⟨q0,qf0⟩:=(HA.1.mb.at 1 rfl).1.2 0 _ rfl
   obtain ⟨q1,qf1⟩:=(HA.1.mb.at 1 rfl).1.2 1 _ rfl
   have HFIN:Sh (FinT w ((wr.setCell ⟨rb,0,none⟩ (.slice ka km kc)).setCell ⟨rb,1,none⟩ (.int .i64 kx)) rb (.slice ka km kc) kx Tk):=⟨by
    obtain ⟨lo9,hi9,h1,h2,h3,h4⟩:=HA.1.ans
    have hrb:=HRB.1
    have M2:=(HA.1.mb.put 1 rfl 0 (.slice ka km kc) (by simp)).put 1 rfl 1 (.int .i64 kx) (by simp)
    refine ⟨((M2.at 1 rfl).1.2 0 _ rfl).1,((M2.at 1 rfl).1.2 1 _ rfl).1,?_,M2.bel⟩
    have hs:((wr.setCell ⟨rb,0,none⟩ (.slice ka km kc)).setCell ⟨rb,1,none⟩ (.int .i64 kx)).heap.size=wr.heap.size:=by simp
    rw [hs]
    exact ((h1.box rb 0 _ (by omega)).box rb 1 _ (by omega)).wide (by omega) h4⟩
   clear hall
   go_wp2_with fail
   refine qac (fun W=>FinT w W rb (.slice ka km kc) kx Tk) HFIN.1 ?_
   rintro W8 ⟨r0,r1,hans,hbel⟩
   exact bodyPost_ret (v:=.tuple #[.agg #[.slice ka km kc,.int .i64 kx],.int .i64 g]) (by simp [results,Tryz.results37,go_sem,r0,r1]) rfl ⟨_,by rw [HTK.1],by rw [HTK.1];exact hans,hbel⟩
end Go.Proofs.YtoglebfiobofoaaGreatDoor
