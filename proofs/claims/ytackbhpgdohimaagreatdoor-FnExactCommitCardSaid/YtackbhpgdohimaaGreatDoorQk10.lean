/- Texts of ours, laid one behind the other: FpA, LkK, LkL, LkM. -/
import Derived.Test.YtackbhpgdohimaaGreatDoorQk9
import Derived.Test.YtackbhpgdohimaaGreatDoorQk8
import Derived.Test.YtackbhpgdohimaaGreatDoorQk5
/- FpA: . -/
namespace Go.Proofs.YtackbhpgdohimaaGreatDoor
set_option maxRecDepth 100000
set_option maxHeartbeats 16000000
open Go.RowKit
attribute [local go_sem ↓] Go.wp_at_zero Go.wp_at_succ
section
open Go.Maps BigFrame
theorem qnn (c:Int) (nm:ByteArray):∀ (ns:List NM) (z:Int),z ≠ 0->ns.foldl (kidS c nm) z=z
 | [],z,_=>rfl
 | n::ns,z,hz=>by
  rw [List.foldl_cons];have:kidS c nm z n=z:=by unfold kidS;rw [if_neg (by intro q;exact hz q.2.2)]
  rw [this];exact qnn c nm ns z hz
theorem qrn (c:Int) (nm:ByteArray):∀ (ns:List NM),(∀ n ∈ ns,n.id ≠ 0)->kidF ns c nm=match fnm ns c nm with
  | none=>0
  | some k=>(ns.getD k default).id
 | [],_=>rfl
 | n::ns,h=>by
  have ih:=qrn c nm ns (fun m hm=>h m (by simp [hm]));unfold kidF fnm at ih ⊢;rw [List.foldl_cons,List.findIdx?_cons]
  by_cases e:n.parent=c/\n.name=nm
  ·have e1:kidS c nm 0 n=n.id:=by unfold kidS;rw [if_pos ⟨e.1,e.2,rfl⟩]
   rw [e1,qnn c nm ns n.id (h n (by simp)),if_pos (by simp [e.1,e.2])]
   rfl
  ·have e1:kidS c nm 0 n=0:=by unfold kidS;rw [if_neg (by intro q;exact e ⟨q.1,q.2.1⟩)]
   rw [e1,ih,if_neg (by simpa using e)];cases ns.findIdx? (fun n=>n.parent==c&&decide (n.name=nm)) <;> rfl
def fo (ns:List NM) (o:Option Nat) (L:List ByteArray):Int:=match o with
 | none=>0
 | some j=>findF ns L (ns.getD j default).id
theorem fo_step {ns:List NM} (hz:∀ n ∈ ns,n.id ≠ 0) {j k:Nat} {L:List ByteArray} (hk:k<L.length):fo ns (some j) (L.drop k)=fo ns (fnm ns (ns.getD j default).id (L.getD k ⟨#[]⟩)) (L.drop (k+1)):=by
 show findF ns (L.drop k) (ns.getD j default).id=_
 rw [qmk ns L k _ hk,qrn _ _ ns hz]
 cases e:fnm ns (ns.getD j default).id (L.getD k ⟨#[]⟩) with
 | none=>rfl
 | some q =>
  obtain ⟨hq,-,-⟩:=qlt e;have:(ns.getD q default).id ≠ 0:=by rw [getD_in hq];exact hz _ (List.getElem_mem hq)
  simp only;rw [if_neg this]
  rfl
theorem fo_first {T:TM} {p:ByteArray} {L:List ByteArray} (h:splitB p=(L,true)):findX T p=fo T.nodes (fid T.nodes 1) L:=by
 unfold findX;rw [h,qoc]
 cases e:fid T.nodes 1 with
 | none=>simp [fo]
 | some j =>
  obtain ⟨hj,ej⟩:=qck e;simp only [fo];rw [if_pos ⟨trivial,by omega⟩,getD_in hj,ej]
theorem look_nil (s:ByteArray) (W:World):(Instr.lookup 195 (.map none) (.string s) false).run Tryz.prog W = .ok (.pointer none) W:=by kernel_rfl
theorem em_some (g:Nat):mapV (some g) = .map (some g):=rfl
theorem em_none:mapV none = .map none:=rfl
attribute [local irreducible] fo findX
theorem implFindPath (w:World) (v:Value) (T:TM) (lo hi:Nat) (p:ByteArray) (h:TSee w v T lo hi) (hf:NFit T) (hI:NInt T.nodes) (hz:∀ n ∈ T.nodes,n.id ≠ 0) (hp:p.size<=1048576):Calls Tryz.prog 65 #[v,.string p] w fun e w'=>e = .returned (.int .i64 (findX T p))/\Below w.heap.size w w':=by
 have hsee:=h;obtain ⟨a,cap,rs,rfl,hr,hm⟩:=h;have hl:rs.length<=1048576:=by unfold NFit at hf;rw [<-hr,qaf] at hf;omega
 obtain ⟨n,hn⟩:∃ n,n=rs.length:=⟨_,rfl⟩;obtain ⟨nx,hnx⟩:∃ nx,nx=T.next:=⟨_,rfl⟩;rw [<-hn,<-hnx] at hsee ⊢;have hlk:=fun W (hb:Below w.heap.size w W)=>qdt (cap:=cap) (hm.below hb) hl (by rw [hr];exact hI) (fun x hx=>by rw [hr] at hx;have:=(qmt hf x hx).1;unfold maxLen;omega);rw [<-hn] at hlk;have HLK:=zS hlk;have HR:=zS hr;have HF:=zS hf;have HI:=zS hI;have HZ:=zS hz;have HSP:=zS (fun W=>qhs p W hp);obtain ⟨X,hX⟩:∃ X,X=findX T p:=⟨_,rfl⟩;rw [<-hX];have HX:=zS hX;have HNM:=zS (qcm p);obtain ⟨L,ok,hre⟩:∃ L ok,splitB p=(L,ok):=⟨_,_,rfl⟩;have HRE:=zS hre;rw [hre] at HSP HNM;unfold QPost at HSP;clear hlk hr hm hsee hn hnx hX hre hf hI hz hp
 cases ok with
 | false =>
  have HE:Sh (X=0):=⟨by rw [HX.1];unfold findX;rw [HRE.1];simp⟩;go_enter Tryz.func65,Tryz.ntmps65;go_wp2_with (go_at_call 118;refine (HSP.1 _).mono ?_;rintro e w1 ⟨sv,rfl,ho,hb1⟩;have HB1:=zS hb1;clear ho hb1);go_ret;exact ⟨by rw [HE.1];rfl,(zB.alloc zL _).trans (HB1.1.mono (by simp))⟩
 | true =>
  have HE:Sh (X=fo T.nodes (fid T.nodes 1) L):=⟨by rw [HX.1];exact fo_first HRE.1⟩;clear HX HRE;go_enter Tryz.func65,Tryz.ntmps65;go_upto_region 4 with (go_at_call 118;refine (HSP.1 _).mono ?_;rintro e w1 ⟨sv,rfl,ho,hb1⟩;have HO:=zS (OwnAt.oans ho);have hbx:=(BX.new w a n cap nx 37).below hb1;have HBX:=zS hbx;have x0:=(hbx.box.2 0 _ rfl).1;clear ho hb1 hbx);obtain ⟨sa,sc,rfl,_,hcs⟩:=HO.1;have HCS:=zS hcs;obtain ⟨m,hm⟩:∃ m,m=L.length:=⟨_,rfl⟩;have HML:=zS hm;have hm4:m<=4:=by have:=HNM.1.2;omega
  rw [<-hm];clear hm hcs HO;go_wp2_with fail;refine (HLK.1 _ HBX.1.bel).mono ?_;rintro e w2 ⟨b1,b2,G,C,rfl,hL,hb2⟩;have HCS2:Sh (L=[]\/∃ g off,sa=some ⟨g,off,none⟩/\g<w2.heap.size/\OCells w2 g off L):=⟨HCS.1.imp id (fun ⟨g,off,e1,_,e2,e3⟩=>⟨g,off,e1,Nat.lt_of_lt_of_le e2 hb2.size,e3.below hb2 e2⟩)⟩;have HB:=zS (HBX.1.bel.trans (hb2.mono HBX.1.bel.size));have HL2:=zS hL;clear hL hb2 x0 HCS;go_upto_region 5 with fail;obtain ⟨lb,hlb⟩:∃ lb,lb=w2.heap.size:=⟨_,rfl⟩;refine qaa (fun W=>Below w2.heap.size w2 W/\WCells W lb [.map (some b1),.map (some b2)]) ⟨zB.alloc zL _,by rw [hlb];exact qac w2 #[.map (some b1),.map (some b2)] 169⟩ ?_;intro V hV;rw [<-hlb];clear hlb;obtain ⟨hbV,hxV⟩:=hV;have hLV:=HL2.1.below hbV;obtain ⟨D1,o1,t1⟩:=hLV.m1;have k1:=qdu keyI Tryz.underlying166 qhn o1 (qcs (x:=1) (by decide)) (t1 1) 0;rw [World.drewN_zero,HR.1] at k1;have x0:=(hxV.2 0 _ rfl).1;have HCS3:Sh (L=[]\/∃ g off,sa=some ⟨g,off,none⟩/\g<V.heap.size/\OCells V g off L):=⟨HCS2.1.imp id (fun ⟨g,off,e1,e2,e3⟩=>⟨g,off,e1,Nat.lt_of_lt_of_le e2 hbV.size,e3.below hbV e2⟩)⟩;have HBV:=zS (HB.1.trans (hbV.mono HB.1.size));have HLV:=zS hLV;have HXV:=zS hxV;clear hbV hxV hLV o1 t1 HB HL2 HCS2;go_wp2_with fail;go_loopw [8,26] (fun pv iv wr=>∃ (k:Nat) (o:Option Nat),pv=ptrV (o.map G)/\iv = .int .i64 k/\k<=m/\Sh ((∀ j,o=some j->j<T.nodes.length)/\X=fo T.nodes o (L.drop k))/\Sh (Below V.heap.size V wr)) (fun _ iv _=>m - (intOf iv).toNat)
  case atStart=>exact ⟨0,fid T.nodes 1,rfl,rfl,Nat.zero_le _,⟨fun j hj=>(qck hj).1,by rw [List.drop_zero];exact HE.1⟩,⟨zB⟩⟩
  case round =>
   clear x0 k1;obtain ⟨k,o,rfl,rfl,hk,HK,HW⟩:=hrel
   by_cases hlt:k<m
   case pos =>
    have hkL:k<L.length:=by have:=HML.1;omega
    have k0:(0:Int)<=(k:Int):=by omega
    have k1:(k:Int)<(m:Int):=by omega
    obtain ⟨g,off,rfl,lg,hoc⟩:=HCS3.1.resolve_left (fun e=>by rw [e] at hkL;simp at hkL);have c0:=(hoc.below HW.1 lg).2 k hkL
    have hns:(L.getD k ⟨#[]⟩).size<=8:=by
     have:=HNM.1.1 L[k] (List.getElem_mem hkL);have e:L.getD k ⟨#[]⟩=L[k]:=by simp [List.getD,hkL]
     rw [e];exact ((qez _).1 this).2.2
    have HCS4:=zS hoc
    cases o with
    | none =>
     rw [Option.map_none,qcg];have HE0:Sh (X=0):=⟨by rw [HK.1.2];unfold fo;rfl⟩;go_wp2_with fail;go_ret;exact ⟨by rw [HE0.1];rfl,HBV.1.trans (HW.1.mono HBV.1.size)⟩
    | some j =>
     rw [Option.map_some,qcf];have hj:=HK.1.1 j rfl;have hLw:=HLV.1.below HW.1;have hst:=fo_step HZ.1 (j:=j) hkL;rw [<-HK.1.2] at hst;obtain ⟨s,hs⟩:∃ s,s=L.getD k ⟨#[]⟩:=⟨_,rfl⟩;rw [<-hs] at c0 hns hst;have hnd:=hLw.nd;rw [HR.1] at hnd;have d0:=(hnd.cells j hj).1;have hge:=getD_in hj;obtain ⟨x,hx⟩:∃ x,x=T.nodes[j]:=⟨_,rfl⟩;have hxI:=HI.1 T.nodes[j] (List.getElem_mem hj);rw [<-hx] at d0 hge hxI;rw [hge] at hst;have y1:=((HXV.1.grow HW.1).2 1 _ rfl).1;obtain ⟨D2,o2,t2⟩:=hLw.m2;rw [HR.1] at t2;have HST:=zS hst
     by_cases hpar:Par T.nodes x.id
     ·have k2:=qhr keyI Tryz.underlying167 qnx o2 (qcs hxI.1) ((t2 x.id).1 hpar)
      obtain ⟨d1,d2,d3,D3,o3,t3⟩:=hLw.m3 x.id (by rw [HR.1];exact hpar);have k3:=qdu keyS Tryz.underlying195 qhn o3 (qkf (s:=s) (by unfold maxLen;omega)) (t3 s);rw [HR.1] at k3;rw [em_some] at k2;obtain ⟨o',ho'⟩:∃ o',o'=fnm T.nodes x.id s:=⟨_,rfl⟩;rw [<-ho'] at k3;have HN:Sh ((∀ q,o'=some q->q<T.nodes.length)/\X=fo T.nodes o' (L.drop (k+1))):=⟨fun q hq=>by rw [ho'] at hq;exact (qlt hq).1,by rw [ho'];exact HST.1⟩;clear hnd hge hx hxI o2 t2 o3 t3 d1 d2 d3 hpar hst hLw hj hs ho' hoc;go_wp2_with fail;go_quiet (fail)
      have HBQ:Sh (Below V.heap.size V (wr.drewN nq)):=⟨HW.1.trans ((Below.mono (B:=(wr.drewN nq).heap.size) ⟨rfl,rfl,rfl,zL,fun _ _=>rfl⟩ zL:Below wr.heap.size wr (wr.drewN nq)).mono HW.1.size)⟩;go_wp2_with fail;go_roundw
      case rel=>exact ⟨k+1,o',rfl,by go_num,by omega,HN,HBQ⟩
      case measure=>simp [intOf];omega
     ·have k2:=qhr keyI Tryz.underlying167 qnx o2 (qcs hxI.1) ((t2 x.id).2 hpar)
      rw [em_none] at k2;have k3:=look_nil s
      have hfn:fnm T.nodes x.id s=none:=by
       cases e:fnm T.nodes x.id s with
       | none=>rfl
       | some q=>exact absurd (qrq e) hpar
      have HN:Sh ((∀ q,(none:Option Nat)=some q->q<T.nodes.length)/\X=fo T.nodes none (L.drop (k+1))):=⟨fun q hq=>(by cases hq),by rw [<-hfn];exact HST.1⟩;clear hnd hge hx hxI o2 t2 hpar hst hLw hj hs hfn hoc;go_wp2_with fail;go_quiet (fail)
      have HBQ:Sh (Below V.heap.size V (wr.drewN nq)):=⟨HW.1.trans ((Below.mono (B:=(wr.drewN nq).heap.size) ⟨rfl,rfl,rfl,zL,fun _ _=>rfl⟩ zL:Below wr.heap.size wr (wr.drewN nq)).mono HW.1.size)⟩;go_wp2_with fail;go_roundw
      case rel=>exact ⟨k+1,none,rfl,by go_num,by omega,HN,HBQ⟩
      case measure=>simp [intOf];omega
   case neg =>
    have k1:¬ (k:Int)<(m:Int):=by omega
    have hdr:L.drop k=[]:=List.drop_of_length_le (by have:=HML.1;omega)
    cases o with
    | none =>
     rw [Option.map_none,qcg];have HE0:Sh (X=0):=⟨by rw [HK.1.2];unfold fo;rfl⟩;go_wp2_with fail;go_ret;exact ⟨by rw [HE0.1];rfl,HBV.1.trans (HW.1.mono HBV.1.size)⟩
    | some j =>
     rw [Option.map_some,qcf];have hj:=HK.1.1 j rfl;have hnd:=(HLV.1.below HW.1).nd;rw [HR.1] at hnd;have d0:=(hnd.cells j hj).1;obtain ⟨x,hx⟩:∃ x,x=T.nodes[j]:=⟨_,rfl⟩;have HE0:Sh (X=x.id):=⟨by rw [HK.1.2,hdr,hx];unfold fo;simp only [findF];rw [getD_in hj]⟩;rw [<-hx] at d0;clear hnd hx hdr hj;go_wp2_with fail;go_ret;exact ⟨by rw [HE0.1];rfl,HBV.1.trans (HW.1.mono HBV.1.size)⟩
end
section
open Go.Maps BigFrame
variable {xs:List Int} {ns:List NM} {a:Option Addr} {T:TM} {w:World}
def blwL (all ns:List NM) (top:Int):List Int:=(ns.filter fun n=>decide (top ≠ 0)&&qal all 15 n.id top).map NM.id
theorem blwL_take (all ns:List NM) (top:Int) (k:Nat) (h:k<ns.length):blwL all (ns.take (k+1)) top=blwL all (ns.take k) top++if (decide (top ≠ 0)&&qal all 15 ns[k].id top)=true then [ns[k].id] else []:=by
 rw [List.take_succ_eq_append_getElem h];unfold blwL;rw [List.filter_append,List.map_append]
 congr 1
 simp only [List.filter_cons,List.filter_nil];split <;> simp
theorem qru (h:qae T=true) (id:Int):blwL T.nodes T.nodes id=qap T id:=by
 have ht:=qee h;unfold qap blwL
 cases hf:fid T.nodes id with
 | none =>
  rw [if_neg (by rw [qoc,hf];simp)];rw [List.map_eq_nil_iff,List.filter_eq_nil_iff];intro n hn hc;obtain ⟨i,hi,rfl⟩:=List.mem_iff_getElem.1 hn;obtain ⟨d,_,hu⟩:=ht.2 i hi;simp only [Bool.and_eq_true,decide_eq_true_eq] at hc;have:=belowF_no ht.1 hf hc.1 hu 15;rw [getD_in hi,hc.2] at this;cases this
 | some i =>
  rw [if_pos ⟨h,by rw [qoc,hf];simp⟩];obtain ⟨hi,e⟩:=qck hf;have h0:id ≠ 0:=by have:=ht.1.pos hi;omega
  unfold qce
  congr 2
  funext n
  simp [h0]
theorem qki (w:World) (v:Value) (T:TM) (lo hi:Nat) (id:Int) (h:TSee w v T lo hi) (hf:NFit T) (hI:NInt T.nodes):Calls Tryz.prog 160 #[v,.int .i64 id] w fun e w'=>IPost (qap T id) w e w':=by
 have hsee:=h;obtain ⟨a,cap,rs,rfl,hr,hm⟩:=h;have hlen:rs.length=T.nodes.length:=by rw [<-hr,qaf]
 have hl:rs.length<=1048576:=by unfold NFit at hf;omega
 have hget:∀ j (hj:j<rs.length),∃ hj':j<T.nodes.length,T.nodes[j]=rs[j].nd:=fun j hj=>by
  refine ⟨by rw [<-hr,qaf];exact hj,?_⟩;rw [List.getElem_of_eq hr.symm];simp [nds]
 obtain ⟨n,hn⟩:∃ n,n=rs.length:=⟨_,rfl⟩;obtain ⟨nx,hnx⟩:∃ nx,nx=T.next:=⟨_,rfl⟩;rw [<-hn,<-hnx] at hsee ⊢;have hok:=fun W (hb:Below w.heap.size w W)=>qgm W _ T lo hi (hsee.below hb) hf hI;have hlk:=fun W (hb:Below w.heap.size w W)=>qdt (cap:=cap) (hm.below hb) hl (by rw [hr];exact hI) (fun x hx=>by rw [hr] at hx;have:=(qmt hf x hx).1;unfold maxLen;omega);rw [<-hn] at hlk hl hlen;obtain ⟨R,hR⟩:∃ R,R=qap T id:=⟨_,rfl⟩;rw [<-hR];have HOK:=zS hok;have HLK:=zS hlk;have HE:=zS hr;have HM:=zS hm;have HN:=zS hn;have HL:=zS hlen;have HG:=zS hget;have HR:=zS hR;have HI:=zS hI;clear hok hlk hr hm hsee hn hnx hlen hget hR hI hf
 cases ht:qae T with
 | false =>
  rw [ht] at HOK;have HF:Sh (R=[]):=⟨by rw [HR.1];unfold qap;rw [if_neg (by rw [ht];simp)]⟩;clear ht;go_enter Tryz.func160,Tryz.ntmps160;go_wp2_with (go_at_call 62;refine (HOK.1 _ (zB.alloc zL _)).mono ?_;rintro e w1 ⟨rfl,hb1⟩);go_ret;exact ⟨_,rfl,by rw [HF.1];exact IAns.empty _ _ _ _ _,(zB.alloc zL _).trans (hb1.mono (by simp))⟩
 | true =>
  rw [ht] at HOK;have HT:=zS (qee ht);have HRR:Sh (R=blwL T.nodes T.nodes id):=⟨by rw [HR.1,qru ht]⟩;have h14:n<=14:=by have:=qif ht;have:=HL.1;omega
  obtain ⟨t0,ht0,hty0,hty1,hty2⟩:=info_parts qjm;clear ht;go_enter Tryz.func160,Tryz.ntmps160;go_wp2_with (go_at_call 62;refine (HOK.1 _ (zB.alloc zL _)).mono ?_;rintro e w1 ⟨rfl,hb1⟩;have hbx:=(BX.new w a n cap nx 37).below hb1;have HBX:=zS hbx;have x0:=(hbx.box.2 0 _ rfl).1;clear hb1 hbx);refine (HLK.1 _ HBX.1.bel).mono ?_;rintro e w2 ⟨b1,b2,G,C,rfl,hL,hb2⟩;have HB2:=zS (HBX.1.below hb2);have HL2:=zS (hL.base HBX.1.bel.size);clear hL hb2 x0 HBX;have x0:=(HB2.1.box.2 0 _ rfl).1;have lx:=HB2.1.box.1;go_upto_region 5 with fail;refine qaa (fun W=>BL w W a n cap nx w2.heap.size b1 b2 rs G C) ?_ ?_
  ·have hb:Below w2.heap.size w2 (w2.alloc (.cells #[.map (some b1),.map (some b2)] 169)):=zB.alloc zL _
   exact ⟨HB2.1.below hb,qac w2 #[.map (some b1),.map (some b2)] 169,HL2.1.below hb⟩
  intro V hV;have HV:=zS hV;clear hV x0;have x0:=(HV.1.bx.box.2 0 _ rfl).1;obtain ⟨L,hL⟩:∃ L,L=w2.heap.size:=⟨_,rfl⟩;rw [<-hL] at HV ⊢;clear HB2 HL2 hL lx HLK HOK;go_wp2_with fail;go_loopw [6,18] (fun ov iv wr=>∃ (k l:Nat) (vv:Value),vv=ov/\iv = .int .i64 k/\k<=n/\l<=k/\Sh (l=(blwL T.nodes (T.nodes.take k) id).length)/\Sh (Below V.heap.size V wr/\wr.ownsRow V.heap.size 3 1 vv l (ics (blwL T.nodes (T.nodes.take k) id)))) (fun _ iv _=>n - (intOf iv).toNat)
  case atStart=>exact ⟨0,0,_,rfl,rfl,Nat.zero_le _,zL,⟨by simp [blwL]⟩,⟨zB,by simpa [blwL,ics] using World.ownsRow_nil V V.heap.size 3 1⟩⟩
  case round =>
   clear x0;obtain ⟨k,l,ov,rfl,rfl,hk,hlk,HK,HW⟩:=hrel;have hW:=HV.1.below HW.1.1;have v0:=(hW.vr.2 0 _ rfl).1
   by_cases hlt:k<n
   ·have hkr:k<rs.length:=by rw [<-HN.1];exact hlt
    obtain ⟨b,off,rfl,lb,hc⟩:=TR.nat HM.1 (by omega);have hnk:=(hc k hkr).below hW.bx.bel lb;obtain ⟨hkT,hge⟩:=HG.1 k hkr;have hst:=blwL_take T.nodes T.nodes id k hkT;obtain ⟨D1,o1,t1⟩:=hW.lk.m1;have hfi:=HT.1.1.fid hkT;have hmem:T.nodes[k] ∈ T.nodes:=List.getElem_mem hkT;have f1:=(HI.1 _ hmem).1;have htk:=t1 T.nodes[k].id;rw [HE.1,hfi] at htk;have hnd:=hW.lk.nd;rw [HE.1] at hnd;have hbe:blw T.nodes k id=(decide (id ≠ 0)&&qal T.nodes 15 rs[k].nd.id id):=by unfold blw;rw [getD_in hkT,hge]
    have hib:=fun W' (hb:Below wr.heap.size wr W')=>isBelow_any (hnd.below hb) HT.1 hkT id;rw [hge] at hst f1 htk;rw [hbe] at hib;obtain ⟨r,hr⟩:∃ r,r=rs[k]:=⟨_,rfl⟩;rw [<-hr] at hnk hst f1 htk hib;have k1:=qdu keyI Tryz.underlying166 qhn (o1.alloc (.cells #[.int .i64 r.nd.id,.int .i64 r.nd.parent,.string r.nd.name,.bool r.nd.dir,.int .i64 r.nd.schema,.int .i64 r.nd.quota,.int .i64 r.nd.len,.slice r.loc r.nd.pieces.length r.cap,.int .i64 r.nd.writer] 90)) (qcs f1) htk 0;rw [World.drewN_zero] at k1;simp only [Option.map_some,qcf] at k1;have hba:Below wr.heap.size wr (wr.alloc (.cells #[.int .i64 r.nd.id,.int .i64 r.nd.parent,.string r.nd.name,.bool r.nd.dir,.int .i64 r.nd.schema,.int .i64 r.nd.quota,.int .i64 r.nd.len,.slice r.loc r.nd.pieces.length r.cap,.int .i64 r.nd.writer] 90)):=zB.alloc zL _;have HIB:=zS (hib _ hba);have HBA:=zS hba;have HST:=zS hst;have lv:=hW.vr.1;have lb':b<wr.heap.size:=Nat.lt_of_lt_of_le lb hW.bx.bel.size;have k0:(0:Int)<=(k:Int):=by omega
    have k2:(k:Int)<(n:Int):=by omega
    have hsv:V.heap.size<=wr.heap.size:=HW.1.1.size;have HOW:=zS (HW.1.2.alloc (.cells #[.int .i64 r.nd.id,.int .i64 r.nd.parent,.string r.nd.name,.bool r.nd.dir,.int .i64 r.nd.schema,.int .i64 r.nd.quota,.int .i64 r.nd.len,.slice r.loc r.nd.pieces.length r.cap,.int .i64 r.nd.writer] 90));obtain ⟨c0,c1,c2,c3,c4,c5,c6,c7,c8⟩:=hnk;obtain ⟨bb,hbb⟩:∃ bb,bb=(decide (id ≠ 0)&&qal T.nodes 15 r.nd.id id):=⟨_,rfl⟩;rw [<-hbb] at HIB HST;clear hc hr hst hfi hmem f1 htk hnd hbe hib hba o1 t1 hW hge hbb
    cases bb with
    | false =>
     have HS':Sh (blwL T.nodes (T.nodes.take (k+1)) id=blwL T.nodes (T.nodes.take k) id):=⟨by rw [HST.1];simp⟩;go_wp2_with (go_at_call 186;refine HIB.1.mono ?_;rintro e w9 ⟨rfl,rfl⟩);go_roundw
     case rel=>exact ⟨k+1,l,ov,rfl,by go_num,by omega,by omega,⟨by rw [HS'.out];exact HK.1⟩,⟨HW.1.1.trans (HBA.1.mono hsv),by rw [HS'.out];exact HOW.1⟩⟩
     case measure=>simp [intOf];omega
    | true =>
     have HS':Sh (blwL T.nodes (T.nodes.take (k+1)) id=blwL T.nodes (T.nodes.take k) id++[r.nd.id]):=⟨by rw [HST.1];simp⟩;go_upto_region 9 with (go_at_call 186;refine HIB.1.mono ?_;rintro e w9 ⟨rfl,rfl⟩);refine qaa (fun W=>Below wr.heap.size wr W/\W.cell? ⟨wr.heap.size,0,none⟩=some (.int .i64 r.nd.id)) ⟨HBA.1,by simp⟩ ?_;intro W9 hW9;obtain ⟨hb9,d0⟩:=hW9;have ho9:=HW.1.2.kept (row:=none) ⟨hb9.os,hb9.tape,hb9.output,hb9.size,fun k hk _=>hb9.block k hk⟩ (Classical.em _);have hs9:V.heap.size<=W9.heap.size:=Nat.le_trans hsv hb9.size;have HB9:=zS hb9;clear hb9 HBA HOW c0 c1 c2 c3 c4 c5 c6 c7 c8 k1 v0;go_wp2_with (at_builtin;refine wpList_append_own _ rfl _ _ 140 rfl V.heap.size 3 t0 (.int .i64 0) 1 8 Tryz.underlying140 ht0 hty0 hty1 hty2 rfl (by decide) _ _ _ rfl (ho9.alloc _) ⟨W9.heap.size,0,none⟩ 1 1 [.int .i64 r.nd.id] rfl rfl (cell_one_new _ _ _) ?c2 ?c3 ?c4 ?c5 ?_)
     case c2=>first | rfl | (intro u hu;simp at hu;subst hu;rfl)
     case c3=>unfold maxLen;omega
     case c4=>omega
     case c5=>first | omega | (simp;omega)
     intro v' w10 ho10 hgrow _;rw [qpf,<-HS'.out] at ho10;have HGZ:Sh (Below V.heap.size V w10/\w10.ownsRow V.heap.size 3 1 v' (l+1) (ics (blwL T.nodes (T.nodes.take (k+1)) id))):=⟨((HW.1.1.trans (HB9.1.mono hsv)).alloc hs9 _).grown hgrow (by simp;omega) (fun j hj=>(ho9.lt j hj).1),ho10⟩;clear hgrow ho10 ho9;go_wp2_with fail;go_roundw
     case rel=>exact ⟨k+1,l+1,v',rfl,by go_num,by omega,by omega,⟨by rw [HS'.out,List.length_append,List.length_singleton,<-HK.1]⟩,HGZ⟩
     case measure=>simp [intOf];omega
   ·have k1:¬ (k:Int)<(n:Int):=by omega
    have hall:T.nodes.take k=T.nodes:=List.take_of_length_le (by have:=HL.1;omega);have ho:=HW.1.2;have hlen:=HK.1;rw [hall,<-HRR.1] at ho hlen;have HO:=zS ho;have HBV:Sh (Below w.heap.size w wr):=⟨hW.bx.bel⟩;have hsz:w.heap.size<=V.heap.size:=HV.1.bx.bel.size;clear ho hall hW;go_wp2_with fail;go_ret;exact ⟨_,rfl,qgq hlen.symm (qiy HO.1 hsz),HBV.1⟩
def usedP:List NM->List Int->Int
 | [],_=>0
 | n::r,L=>(if L.contains n.id then n.len else 0)+usedP r L
theorem usedP_append (a b:List NM) (L:List Int):usedP (a++b) L=usedP a L+usedP b L:=by
 induction a with
 | nil=>simp [usedP]
 | cons n a ih=>simp only [List.cons_append,usedP,ih];omega
theorem usedP_take (ns:List NM) (L:List Int) (k:Nat) (h:k<ns.length):usedP (ns.take (k+1)) L=usedP (ns.take k) L+if L.contains ns[k].id then ns[k].len else 0:=by
 rw [List.take_succ_eq_append_getElem h,usedP_append];simp [usedP]
theorem qoa (ns:List NM):usedP ns []=0:=by
 induction ns with
 | nil=>rfl
 | cons n r ih=>simp [usedP,ih]
theorem Asc.mem_at (h:Asc ns) {n:NM} (hn:n ∈ ns):ns.getD (atI ns n.id).toNat default=n:=by
 obtain ⟨i,hi,rfl⟩:=List.mem_iff_getElem.1 hn;rw [qoc,h.fid hi];simp [hi]
theorem Asc.mem_eq (h:Asc ns) {m n:NM} (hm:m ∈ ns) (hn:n ∈ ns) (e:m.id=n.id):m=n:=by
 rw [<-h.mem_at hm,<-h.mem_at hn,e]
theorem usedP_is (T:TM) (id:Int):usedP T.nodes (qap T id)=usedX T id:=by
 unfold usedX
 cases ht:qae T with
 | false =>
  have:qap T id=[]:=by unfold qap;rw [if_neg (by rw [ht];simp)]
  rw [this,qoa]
  rfl
 | true =>
  have ha:=(qee ht).1;rw [<-qru ht];unfold blwL;generalize hq:(fun n:NM=>decide (id ≠ 0)&&qal T.nodes 15 n.id id)=q
  have hc:∀ n ∈ T.nodes,((T.nodes.filter q).map NM.id).contains n.id=q n:=fun n hn=>by
   rw [Bool.eq_iff_iff];simp only [List.contains_iff_mem,List.mem_map,List.mem_filter];constructor
   ·rintro ⟨m,⟨hm,hqm⟩,e⟩
    rw [<-ha.mem_eq hm hn e];exact hqm
   ·exact fun hqn=>⟨n,⟨hn,hqn⟩,rfl⟩
  have key:∀ M:List NM,(∀ n ∈ M,n ∈ T.nodes)->usedP M ((T.nodes.filter q).map NM.id)=usedL T.nodes ((M.filter q).map NM.id):=by
   intro M
   induction M with
   | nil=>intro _;rfl
   | cons n r ih =>
    intro hM;have hn:=hM n (by simp);have ih':=ih fun m hm=>hM m (by simp [hm]);unfold usedP;rw [hc n hn,ih']
    cases hqn:q n with
    | true =>
     rw [List.filter_cons_of_pos hqn,List.map_cons]
     conv=>rhs;unfold usedL
     rw [ha.mem_at hn];simp
    | false =>
     rw [List.filter_cons_of_neg (by simp [hqn])];simp
  exact key T.nodes fun n hn=>hn
theorem usedP_le (T:TM) (id:Int) (k:Nat):0<=usedP (T.nodes.take k) (qap T id)/\usedP (T.nodes.take k) (qap T id)<=14000:=by
 cases ht:qae T with
 | false =>
  have:qap T id=[]:=by unfold qap;rw [if_neg (by rw [ht];simp)]
  rw [this,qoa];omega
 | true =>
  have hall:∀ M:List NM,(∀ n ∈ M,0<=n.len/\n.len<=1000)->0<=usedP M (qap T id)/\usedP M (qap T id)<=1000*M.length:=by
   intro M
   induction M with
   | nil=>intro _;simp [usedP]
   | cons n r ih =>
    intro hM;have h1:=hM n (by simp);have h2:=ih fun m hm=>hM m (by simp [hm]);simp only [usedP,List.length_cons]
    push_cast
    split <;> omega
  have h3:=hall (T.nodes.take k) fun n hn=>by
   obtain ⟨i,hi,rfl⟩:=List.mem_iff_getElem.1 (List.mem_of_mem_take hn);have:=qmm (qdc ht hi);rw [getD_in hi] at this;exact this
  have h4:=qif ht;have h5:(T.nodes.take k).length<=14:=by simp;omega
  omega
theorem implIndex (cap:Nat) (x:Int) (hr:CRow w a (ics xs)) (hl:xs.length<=1048576):Calls Tryz.prog 185 #[.slice a xs.length cap,.int .i64 x] w fun e w'=>(∃ i:Int,e = .returned (.int .i64 i)/\Sh (decide (0<=i)=xs.contains x))/\w'=w:=by
 obtain ⟨n,hn⟩:∃ n,n=xs.length:=⟨_,rfl⟩;rw [<-hn] at hl ⊢;have HN:=zS hn;have HR:=zS hr;clear hn hr;go_enter Tryz.func185,Tryz.ntmps185;go_wp2_with fail;go_loopw [8] (fun i wr=>∃ k:Nat,i = .int .i64 k/\k<=n/\Sh (∀ j (hj:j<xs.length),j<k->xs[j] ≠ x)/\wr=w) (fun i _=>n - (intOf i).toNat)
 case atStart=>exact ⟨0,rfl,Nat.zero_le _,⟨fun _ _ h=>absurd h (Nat.not_lt_zero _)⟩,rfl⟩
 case round =>
  obtain ⟨k,rfl,hk,hno,rfl⟩:=hrel
  by_cases hlt:k<n
  ·have hkx:k<xs.length:=by rw [<-HN.1];exact hlt
   obtain ⟨b,off,rfl,lb,hc⟩:=HR.1 (by simp [ics];omega);have e0:=hc k (.int .i64 xs[k]) (by simp [ics,hkx]);have k0:(0:Int)<=(k:Int):=by omega
   have k1:(k:Int)<(n:Int):=by omega
   obtain ⟨y,hy⟩:∃ y,y=xs[k]:=⟨_,rfl⟩;rw [<-hy] at e0;have HY:=zS hy;clear hc hy
   by_cases hxy:x=y
   ·have hxy':(x==y)=true:=by simp [hxy]
    have HC:Sh (xs.contains x=true):=⟨by rw [hxy,HY.1];simp⟩;clear hxy;go_wp2_with fail;go_ret;exact ⟨⟨k,rfl,⟨by rw [HC.1];simp⟩⟩,rfl⟩
   ·go_wp2_with fail
    go_roundw
    case rel =>
     refine ⟨k+1,by go_num,by omega,⟨fun j hj hjk=>?_⟩,trivial⟩;rcases Nat.lt_succ_iff_lt_or_eq.1 hjk with h | h
     ·exact hno.1 j hj h
     ·subst h
      rw [<-HY.1];exact fun e=>hxy e.symm
    case measure=>simp [intOf];omega
  ·have hlt':¬ (k:Int)<(n:Int):=by omega
   have HC:Sh (xs.contains x=false):=⟨by
    refine Bool.eq_false_iff.2 fun hc=>?_;simp only [List.contains_iff_mem] at hc;obtain ⟨j,hj,e⟩:=List.mem_iff_getElem.1 hc
    exact hno.1 j hj (by have:=HN.1;omega) e⟩
   go_wp2_with fail;go_ret;exact ⟨⟨-1,rfl,⟨by have:=HC.1;simp at this;simp [this]⟩⟩,rfl⟩
theorem qfu (cap:Nat) (x:Int) (hr:CRow w a (ics xs)) (hl:xs.length<=1048576):Calls Tryz.prog 159 #[.slice a xs.length cap,.int .i64 x] w fun e w'=>e = .returned (.bool (xs.contains x))/\w'=w:=by
 have HC:=zS (implIndex cap x hr hl);generalize xs.contains x=c at *;generalize xs.length=n at *;clear hr;go_enter Tryz.func159,Tryz.ntmps159;go_wp2_with fail;refine HC.1.mono ?_;rintro e w1 ⟨⟨i,rfl,HI⟩,rfl⟩;go_wp2_with fail;go_ret;exact ⟨by rw [<-HI.1];rfl,rfl⟩
theorem qhp (w:World) (v:Value) (T:TM) (lo hi:Nat) (id:Int) (h:TSee w v T lo hi) (hf:NFit T) (hI:NInt T.nodes):Calls Tryz.prog 161 #[v,.int .i64 id] w fun e w'=>e = .returned (.int .i64 (usedX T id))/\Below w.heap.size w w':=by
 have hsee:=h;obtain ⟨a,cap,rs,rfl,hr,hm⟩:=h;have hlen:rs.length=T.nodes.length:=by rw [<-hr,qaf]
 have hl:rs.length<=1048576:=by unfold NFit at hf;omega
 have hget:∀ j (hj:j<rs.length),∃ hj':j<T.nodes.length,T.nodes[j]=rs[j].nd:=fun j hj=>by
  refine ⟨by rw [<-hr,qaf];exact hj,?_⟩;rw [List.getElem_of_eq hr.symm];simp [nds]
 obtain ⟨n,hn⟩:∃ n,n=rs.length:=⟨_,rfl⟩;obtain ⟨nx,hnx⟩:∃ nx,nx=T.next:=⟨_,rfl⟩;rw [<-hn,<-hnx] at hsee ⊢;have hbo:=fun W (hb:Below w.heap.size w W)=>qki W _ T lo hi id (hsee.below hb) hf hI;rw [<-hn] at hl hlen;rw [<-usedP_is];have hle:=usedP_le T id;have hbl:(qap T id).length<=1048576:=by have:=qfd T id;omega
 generalize qap T id=X at *;obtain ⟨R,hR⟩:∃ R,R=usedP T.nodes X:=⟨_,rfl⟩;rw [<-hR];unfold IPost at hbo;have HBO:=zS hbo;have HM:=zS hm;have HN:=zS hn;have HL:=zS hlen;have HG:=zS hget;have HR:=zS hR;have HLE:=zS hle;clear hbo hr hm hsee hn hnx hlen hget hR hI hf hle;go_enter Tryz.func161,Tryz.ntmps161;go_wp2_with fail;refine (HBO.1 _ (zB.alloc zL _)).mono ?_;rintro e w1 ⟨u,rfl,hA,hb1⟩;obtain ⟨ua,ucap,rfl,hcr⟩:=hA.crow;have hbx:=(BX.new w a n cap nx 37).below hb1;have HBX:=zS hbx;have x0:=(hbx.box.2 0 _ rfl).1;have hco:=fun W (hb:Below w1.heap.size w1 W) (x:Int)=>qfu ucap x (CRow.stays hcr hb) hbl;obtain ⟨xn,hxn⟩:∃ xn,xn=X.length:=⟨_,rfl⟩;rw [<-hxn] at hco ⊢;have HCO:=zS hco;clear hA hb1 hcr hbx HBO hco hxn;go_wp2_with fail;go_loopw [6,15] (fun sv iv wr=>∃ k:Nat,sv = .int .i64 (usedP (T.nodes.take k) X)/\iv = .int .i64 k/\k<=n/\Sh (Below w1.heap.size w1 wr)) (fun _ iv _=>n - (intOf iv).toNat)
 case atStart=>exact ⟨0,by simp [usedP],rfl,Nat.zero_le _,⟨zB⟩⟩
 case round =>
  clear x0;obtain ⟨k,rfl,rfl,hk,HW⟩:=hrel;have hlek:=HLE.1 k
  by_cases hlt:k<n
  ·have hkr:k<rs.length:=by rw [<-HN.1];exact hlt
   have hW:=HBX.1.below HW.1;obtain ⟨b,off,rfl,lb,hc⟩:=TR.nat HM.1 (by omega);have hnk:=(hc k hkr).below hW.bel lb;obtain ⟨hkT,hge⟩:=HG.1 k hkr;have hst:=usedP_take T.nodes X k hkT;have hle1:=HLE.1 (k+1);rw [hst] at hle1;rw [hge] at hst hle1;obtain ⟨r,hr⟩:∃ r,r=rs[k]:=⟨_,rfl⟩;rw [<-hr] at hnk hst hle1;obtain ⟨sm,hsm⟩:∃ sm,sm=usedP (T.nodes.take k) X:=⟨_,rfl⟩;rw [<-hsm] at hlek hst hle1 ⊢;have HST:=zS hst;have lb':b<wr.heap.size:=Nat.lt_of_lt_of_le lb hW.bel.size;have k0:(0:Int)<=(k:Int):=by omega
   have k1:(k:Int)<(n:Int):=by omega
   have hba:Below w1.heap.size w1 (wr.alloc (.cells #[.int .i64 r.nd.id,.int .i64 r.nd.parent,.string r.nd.name,.bool r.nd.dir,.int .i64 r.nd.schema,.int .i64 r.nd.quota,.int .i64 r.nd.len,.slice r.loc r.nd.pieces.length r.cap,.int .i64 r.nd.writer] 90)):=HW.1.alloc HW.1.size _;have hcc:=HCO.1 _ hba r.nd.id;have HBA:=zS hba;obtain ⟨c0,c1,c2,c3,c4,c5,c6,c7,c8⟩:=hnk;clear hc hr hst hW hba hsm hge
   cases hct:X.contains r.nd.id with
   | true =>
    rw [hct] at hcc HST hle1;have HCC:=zS hcc;have HS':Sh (usedP (T.nodes.take (k+1)) X=sm+r.nd.len):=⟨by rw [HST.1];simp⟩;have hle2:0<=sm+r.nd.len/\sm+r.nd.len<=14000:=by simpa using hle1
    clear hct hcc hle1;go_wp2_with (go_at_call 159;refine HCC.1.mono ?_;rintro e w9 ⟨rfl,rfl⟩);go_roundw
    case rel=>exact ⟨k+1,by rw [HS'.out],by go_num,by omega,HBA⟩
    case measure=>simp [intOf];omega
   | false =>
    rw [hct] at hcc HST;have HCC:=zS hcc;have HS':Sh (usedP (T.nodes.take (k+1)) X=sm):=⟨by rw [HST.1];simp⟩;clear hct hcc hle1;go_wp2_with (go_at_call 159;refine HCC.1.mono ?_;rintro e w9 ⟨rfl,rfl⟩);go_roundw
    case rel=>exact ⟨k+1,by rw [HS'.out],by go_num,by omega,HBA⟩
    case measure=>simp [intOf];omega
  ·have k1:¬ (k:Int)<(n:Int):=by omega
   have hall:T.nodes.take k=T.nodes:=List.take_of_length_le (by have:=HL.1;omega);have HE:Sh (usedP (T.nodes.take k) X=R):=⟨by rw [hall,HR.1]⟩;have HB:Sh (Below w.heap.size w wr):=⟨(HBX.1.below HW.1).bel⟩;clear hall;go_wp2_with fail;go_ret;exact ⟨by rw [<-HE.1];rfl,HB.1⟩
theorem tree_quota (h:qae T=true) {i:Nat} (hi:i<T.nodes.length):0<=T.nodes[i].quota/\T.nodes[i].quota<=1000/\(T.nodes[i].dir=false->T.nodes[i].quota=0):=by
 have hn:=qdc h hi
 cases hd:T.nodes[i].dir with
 | true =>
  have:=qjg hn (by rw [getD_in hi];exact hd);rw [getD_in hi] at this;exact ⟨this.1,this.2,fun h=>by cases h⟩
 | false =>
  unfold nodeOk at hn;simp only [Bool.and_eq_true] at hn;have h3:=hn.1.2;rw [getD_in hi,if_neg (by rw [hd];simp)] at h3;unfold fileOk at h3;simp only [Bool.and_eq_true,beq_iff_eq] at h3;have:T.nodes[i].quota=0:=h3.1.1.1.1.1.2;exact ⟨by omega,by omega,fun _=>this⟩
theorem implRoomFor (w:World) (v:Value) (T:TM) (lo hi:Nat) (id m:Int) (h:TSee w v T lo hi) (hf:NFit T) (hI:NInt T.nodes) (hid:(Lit.int .i64 id).wf=true):Calls Tryz.prog 162 #[v,.int .i64 id,.int .i64 m] w fun e w'=>e = .returned (.bool (roomX T id m))/\Below w.heap.size w w':=by
 have hsee:=h;obtain ⟨a,cap,rs,rfl,hr,hm⟩:=h;obtain ⟨n,hn⟩:∃ n,n=rs.length:=⟨_,rfl⟩;obtain ⟨nx,hnx⟩:∃ nx,nx=T.next:=⟨_,rfl⟩;rw [<-hn,<-hnx] at hsee ⊢;have hat:=fun W (hb:Below w.heap.size w W)=>qiq W _ T lo hi id (hsee.below hb) hf hI hid;have hub:=fun (c:Int) W (hb:Below w.heap.size w W)=>qhp W _ T lo hi c (hsee.below hb) hf hI;have HAT:=zS hat;have HUB:=zS hub;obtain ⟨R,hR⟩:∃ R,R=roomX T id m:=⟨_,rfl⟩;rw [<-hR];have HR:=zS hR;clear hat hub hr hm hsee hn hnx hR hf hI hid;go_enter Tryz.func162,Tryz.ntmps162;go_wp2_with fail;refine (HAT.1 _ (zB.alloc zL _)).mono ?_;rintro e w1 ⟨o,rfl,hb1,hcase⟩;have HB:=zS ((BX.new w a n cap nx 37).below hb1);clear hb1 HAT;rcases hcase with ⟨ht,rfl⟩ | ⟨ht,G,rfl,hnd⟩
 ·have HE:Sh (R=false):=⟨by rw [HR.1];unfold roomX;rw [if_neg (by rw [ht];decide)]⟩
  rw [qcg];clear ht;go_wp2_with fail;go_ret;exact ⟨by rw [HE.1];rfl,HB.1.bel⟩
 ·have HT:=zS (qee ht)
  have HQ:=zS (fun i hi=>tree_quota ht (i:=i) hi);have HU:=zS (fun c=>qrc T c);have HND:=zS hnd;have HE:Sh (R=roomF T m 15 0 id):=⟨by rw [HR.1];unfold roomX;rw [if_pos ht]⟩;clear hnd ht HR
  cases hf:fid T.nodes id with
  | none =>
   have HF:Sh (R=false):=⟨by rw [HE.1];exact qgu hf⟩;rw [Option.map_none,qcg];clear hf;go_wp2_with fail;go_ret;exact ⟨by rw [HF.1];rfl,HB.1.bel⟩
  | some i0 =>
   obtain ⟨hi0,ei0⟩:=qck hf;obtain ⟨d0,hd0,hu0⟩:=HT.1.2 i0 hi0;have HU0:=zS hu0;rw [Option.map_some,qcf];have HI0:Sh (roomF T m (d0+2+(13 - d0)) 0 (T.nodes.getD i0 default).id=R):=⟨by rw [HE.1,getD_in hi0,ei0,show d0+2+(13 - d0)=15 by omega]⟩;clear hf ei0 hu0 HE;go_wp2_with fail;go_loopg [7] (d0+1) (fun q p wr=>Sh (BX w wr a n cap nx/\Below w1.heap.size w1 wr)/\(Sh (p = .pointer none/\R=true)\/Sh (∃ (j d r st:Nat),p = .pointer (some ⟨G j,0,none⟩)/\d+1<=q/\j<T.nodes.length/\Ups T.nodes j d/\roomF T m (d+2+r) st (T.nodes.getD j default).id=R)))
   case atStart=>exact ⟨⟨HB.1,zB⟩,.inr ⟨i0,d0,13 - d0,0,rfl,zL,hi0,HU0.1,HI0.1⟩⟩
   case round =>
    clear HI0 HB;obtain ⟨HB,hrel⟩:=hrel;rcases hrel with ⟨rfl,hR0⟩ | ⟨j,d,r,st,rfl,hdm,hj,hu,h1⟩
    ·have HE0:=zS hR0
     clear hR0;go_wp2_with fail;go_ret;exact ⟨by rw [HE0.1];rfl,HB.1.1.bel⟩
    ·have hnw:=HND.1.below HB.1.2
     have c0:=(hnw.cells j hj).1;have c5:=(hnw.cells j hj).2.2.2.2.2.1;have lj:=(hnw.cells j hj).2.2.2.2.2.2;have hf:=HT.1.1.fid hj;have c9:=hnw.above j hj hf;have hge:=getD_in hj;have hq:=HQ.1 j hj;obtain ⟨x,hx⟩:∃ x,x=T.nodes[j]:=⟨_,rfl⟩;rw [<-hx] at c0 c5 c9 hge hf hq;rw [hge,show d+2+r=(d+1+r)+1 by omega,qmn (i:=j) hf,hge] at h1;have hus:=HU.1 x.id;obtain ⟨x0,x1⟩:=bwb2 HB.1.1.box;have lx:=HB.1.1.box.1;have hcu:=fun X=>qgk (w:=wr) (fun W' (hb:Below wr.heap.size wr W')=>HUB.1 x.id W' (HB.1.1.bel.trans (hb.mono HB.1.1.bel.size))) X;have HCU:=zS hcu;have HH:=zS (And.intro h1 (And.intro hu (And.intro hge hq)));obtain ⟨o,ho⟩:∃ o,o=fid T.nodes x.parent:=⟨_,rfl⟩;rw [<-ho] at c9;have HO:=zS ho;obtain ⟨us,hus'⟩:∃ us,us=usedX T x.id:=⟨_,rfl⟩;rw [<-hus'] at hus HCU HH;clear ho h1 hu hge hf hx hcu hnw hus';have g0:∀ X:Grow wr,X.val.cell? ⟨w.heap.size,0,none⟩=some (.slice a n cap):=fun X=>X.cell x0 lx;have g1:∀ X:Grow wr,X.val.cell? ⟨w.heap.size,1,none⟩=some (.int .i64 nx):=fun X=>X.cell x1 lx;have g2:∀ X:Grow wr,X.val.cell? ⟨G j,0,none⟩=some (.int .i64 x.id):=fun X=>X.cell c0 lj
     by_cases hq0:x.quota=0
     ·have HNX:Sh (roomF T m (d+1+r) (st+1) x.parent=R):=⟨by have:=HH.1.1;rw [if_neg (fun hc=>by omega)] at this;exact this⟩
      have hqb:(x.quota != 0)=false:=by simp [hq0]
      clear hq hq0;go_upto_region 7 with fail;refine qah (by kernel_rfl) (by kernel_rfl) ?_
      repeat (go_big_quiet_step (first | (go_at_call 161;exact HCU.1 _)))
      refine wpQuiet_nil ?_;rintro _ ⟨X,rfl⟩;have u9:=X.cell c9 lj;clear g0 g1 g2
      cases o with
      | none =>
       simp only [Option.map_none,qcg] at u9;go_wp2_with fail;go_roundg (gk - 1)
       case measure=>omega
       case rel =>
        refine ⟨⟨HB.1.1.below X.bel,HB.1.2.trans (X.bel.mono HB.1.2.size)⟩,.inl ⟨⟨rfl,?_⟩⟩⟩;rw [<-HNX.1,show d+1+r=(d+r)+1 by omega,qgu HO.1.symm];simp
      | some k =>
       simp only [Option.map_some,qcf] at u9;go_wp2_with fail;go_roundg (gk - 1)
       case measure=>omega
       case rel =>
        refine ⟨⟨HB.1.1.below X.bel,HB.1.2.trans (X.bel.mono HB.1.2.size)⟩,.inr ⟨?_⟩⟩;obtain ⟨h1,hu,hge,hq⟩:=HH.1
        cases hu with
        | root =>
         have e0:=HT.1.1.2.2.2;have h4:=HO.1;rw [hge] at e0;rw [e0,HT.1.1.zero] at h4;cases h4
        | @step _ k' d' _ _ hk hu' =>
         rw [hge,<-HO.1] at hk;cases hk;obtain ⟨hkl,ek⟩:=qck HO.1.symm;refine ⟨k,d',r,st+1,rfl,by omega,hkl,hu',?_⟩;rw [getD_in hkl,ek,<-HNX.1,show d'+2+r=d'+1+1+r by omega]
     ·have hqb:(x.quota != 0)=true:=by simp [hq0]
      have q1:0<=x.quota:=hq.1;have q2:x.quota<=1000:=hq.2.1
      have hdir:x.dir=true:=by
       cases hd:x.dir with
       | true=>rfl
       | false=>exact absurd (hq.2.2 hd) hq0
      obtain ⟨u1,u2⟩:=hus
      by_cases hlt:x.quota - us<m
      ·have HF:Sh (R=false):=⟨by have:=HH.1.1;rw [if_pos ⟨hdir,by omega,hlt⟩] at this;exact this.symm⟩
       clear hdir hq hq0;go_upto_region 7 with fail;refine qah (by kernel_rfl) (by kernel_rfl) ?_
       repeat (go_big_quiet_step (first | (go_at_call 161;exact HCU.1 _)))
       refine wpQuiet_nil ?_;rintro _ ⟨X,rfl⟩;go_wp2_with fail;go_ret;exact ⟨by rw [HF.1];rfl,(HB.1.1.below X.bel).bel⟩
      ·have HNX:Sh (roomF T m (d+1+r) (st+1) x.parent=R):=⟨by have:=HH.1.1;rw [if_neg (fun hc=>hlt hc.2.2)] at this;exact this⟩
       clear hdir hq hq0;go_upto_region 7 with fail;refine qah (by kernel_rfl) (by kernel_rfl) ?_
       repeat (go_big_quiet_step (first | (go_at_call 161;exact HCU.1 _)))
       refine wpQuiet_nil ?_;rintro _ ⟨X,rfl⟩;have u9:=X.cell c9 lj;clear g0 g1 g2
       cases o with
       | none =>
        simp only [Option.map_none,qcg] at u9;go_wp2_with fail;go_roundg (gk - 1)
        case measure=>omega
        case rel =>
         refine ⟨⟨HB.1.1.below X.bel,HB.1.2.trans (X.bel.mono HB.1.2.size)⟩,.inl ⟨⟨rfl,?_⟩⟩⟩;rw [<-HNX.1,show d+1+r=(d+r)+1 by omega,qgu HO.1.symm];simp
       | some k =>
        simp only [Option.map_some,qcf] at u9;go_wp2_with fail;go_roundg (gk - 1)
        case measure=>omega
        case rel =>
         refine ⟨⟨HB.1.1.below X.bel,HB.1.2.trans (X.bel.mono HB.1.2.size)⟩,.inr ⟨?_⟩⟩;obtain ⟨h1,hu,hge,hq⟩:=HH.1
         cases hu with
         | root =>
          have e0:=HT.1.1.2.2.2;have h4:=HO.1;rw [hge] at e0;rw [e0,HT.1.1.zero] at h4;cases h4
         | @step _ k' d' _ _ hk hu' =>
          rw [hge,<-HO.1] at hk;cases hk;obtain ⟨hkl,ek⟩:=qck HO.1.symm;refine ⟨k,d',r,st+1,rfl,by omega,hkl,hu',?_⟩;rw [getD_in hkl,ek,<-HNX.1,show d'+2+r=d'+1+1+r by omega]
end
end Go.Proofs.YtackbhpgdohimaaGreatDoor
