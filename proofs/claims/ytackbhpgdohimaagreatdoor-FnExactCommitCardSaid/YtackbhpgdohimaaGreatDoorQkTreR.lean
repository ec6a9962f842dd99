/- Texts of ours, laid one behind the other: TreR. -/
import Derived.Test.YtackbhpgdohimaaGreatDoorQk3
import Derived.Deep.CutRange
/- TreR: . -/
namespace Go.Proofs.YtackbhpgdohimaaGreatDoor
set_option maxRecDepth 100000
set_option maxHeartbeats 16000000
open Go.RowKit
attribute [local go_sem ↓] Go.wp_at_zero Go.wp_at_succ
section
variable {s:ByteArray} {c nx:Int} {ns:List NM} {rs:List NR} {r:NR} {cap f i n:Nat} {a:Option Addr} {W w:World}
structure TG (w W:World) (a:Option Addr) (n cap:Nat) (nx:Int) (r:NR):Prop where
 bel:Below w.heap.size w W
 box:WCells W w.heap.size [.slice a n cap,.int .i64 nx]
 node:WCells W (w.heap.size+1) (qaj r)
theorem TG.below {w W W':World} (h:TG w W a n cap nx r) (hb:Below W.heap.size W W'):TG w W' a n cap nx r:=⟨h.bel.trans (hb.mono h.bel.size),h.box.grow hb,h.node.grow hb⟩
theorem TG.drewN (h:TG w W a n cap nx r) (q:Nat):TG w (W.drewN q) a n cap nx r:=h.below ⟨rfl,rfl,rfl,zL,fun _ _=>rfl⟩
theorem TG.new (w:World) (a:Option Addr) (n cap:Nat) (nx:Int) (r:NR) (t1 t2:TypeId):TG w ((w.alloc (.cells #[.slice a n cap,.int .i64 nx] t1)).alloc (.cells (qaj r).toArray t2)) a n cap nx r:=by
 have e1:(w.alloc (.cells #[.slice a n cap,.int .i64 nx] t1)).heap.size=w.heap.size+1:=by simp
 refine ⟨(zB.alloc zL _).alloc (by simp) _,(qac w #[.slice a n cap,.int .i64 nx] t1).alloc _,?_⟩;have:=qac (w.alloc (.cells #[.slice a n cap,.int .i64 nx] t1)) (qaj r).toArray t2;rw [e1] at this;exact this
theorem text_no (h:s ≠ ⟨#[]⟩):(s.toList != [])=true:=by
 rw [bne_iff_ne];intro e;rw [Go.ByteArray.toList_eq] at e;exact h (ByteArray.ext (Array.toList_inj.1 e))
theorem text_yes:((⟨#[]⟩:ByteArray).toList != [])=false:=by rw [Go.ByteArray.toList_eq];rfl
theorem qie:(⟨#[]⟩:ByteArray).toList=[]:=by rw [Go.ByteArray.toList_eq]
theorem qsl {s t:ByteArray} (h:s ≠ t):(s.toList==t.toList)=false:=by
 rw [beq_eq_false_iff_ne];intro e;rw [Go.ByteArray.toList_eq,Go.ByteArray.toList_eq] at e;exact h (ByteArray.ext (Array.toList_inj.1 e))
theorem climbs_none (h:ns.findIdx? (fun n=>n.id==c)=none):climbs ns (f+1) c=false:=by
 conv=>lhs;unfold climbs
 rw [h]
theorem climbs_some (h:ns.findIdx? (fun n=>n.id==c)=some i):climbs ns (f+1) c=if (ns.getD i default).parent=1 then true else climbs ns f (ns.getD i default).parent:=by
 conv=>lhs;unfold climbs
 rw [h]
theorem qcw (h:i<rs.length):(nds rs).getD i default=rs[i].nd:=by
 rw [List.getD_eq_getElem?_getD,List.getElem?_eq_getElem (by rw [qaf];exact h),qrb rs i h];rfl
set_option maxRecDepth 1000000 in
theorem specNode {lo hi:Nat} (k:Nat) (hm:TR w a rs lo hi) (hk:k<rs.length) (hl:rs.length<=14) (hp:∀ r ∈ rs,r.nd.pieces.length<=1048576/\r.nd.name.size<=1048576) :
  Calls Tryz.prog 83 #[.agg #[.slice a rs.length cap,.int .i64 nx],.int .i64 (k:Int)] w fun e w'=>e = .returned (.bool (nodeOk ⟨nds rs,nx⟩ k))/\Below w.heap.size w w':=by
 obtain ⟨n,hn⟩:∃ n,n=rs.length:=⟨_,rfl⟩;have HN:=zS hn;obtain ⟨R,hR⟩:∃ R,R=nodeOk ⟨nds rs,nx⟩ k:=⟨_,rfl⟩;have HM:=zS (And.intro hm hp);rw [<-hR,<-hn];rw [<-hn] at hk hl;have hkI:(k:Int)<(n:Int):=by omega
 have hk0:(0:Int)<=(k:Int):=by omega
 have hlr:k<rs.length:=by omega
 obtain ⟨b,off,rfl,lb,hc⟩:=TR.nat hm (by omega);have HC:=zS (fun W (hW:Below w.heap.size w W) i (hi:i<rs.length)=>(hc i hi).below hW lb);rcases hr:rs[k] with ⟨⟨id,parent,name,dir,schema,quota,len,pieces,writer⟩,loc,cp⟩
 have hgk:(nds rs).getD k default=⟨id,parent,name,dir,schema,quota,len,pieces,writer⟩:=by rw [qcw hlr,hr]
 have d:=hc k hlr;rw [hr] at d;obtain ⟨d0,d1,d2,d3,d4,d5,d6,d7,d8⟩:=d;dsimp only at d0 d1 d2 d3 d4 d5 d6 d7 d8
 have HPK:Sh (RRow w loc (pcs pieces) lo hi/\pieces.length<=1048576/\name.size<=1048576):=⟨by
  have h1:=hm.2 rs[k] (List.getElem_mem hlr);have h2:=hp rs[k] (List.getElem_mem hlr);rw [hr] at h1 h2
  exact ⟨h1,h2⟩⟩
 obtain ⟨o2,hO2⟩:∃ o2,o2=(decide (id<nx)&&(if k=0 then qbu ⟨id,parent,name,dir,schema,quota,len,pieces,writer⟩ else decide (((nds rs).getD (k - 1) default).id<id))):=⟨_,rfl⟩;obtain ⟨o4,hO4⟩:∃ o4,o4=(if dir then dirOk ⟨id,parent,name,dir,schema,quota,len,pieces,writer⟩ else fileOk ⟨id,parent,name,dir,schema,quota,len,pieces,writer⟩):=⟨_,rfl⟩;obtain ⟨A,hA0⟩:∃ A,A=atI (nds rs) parent:=⟨_,rfl⟩;obtain ⟨o9,hO9⟩:∃ o9,o9=(nameB name&&decide (0<=A)&&((nds rs).getD A.toNat default).dir):=⟨_,rfl⟩;obtain ⟨oj,hOj⟩:∃ oj,oj=(List.range k).all (fun j=>! ((((nds rs).getD j default).parent==parent)&&decide (((nds rs).getD j default).name=name))):=⟨_,rfl⟩;obtain ⟨oc,hOc⟩:∃ oc,oc=climbs (nds rs) 4 id:=⟨_,rfl⟩;have HR:Sh (R=(o2&&o4&&(decide (k=0)||(o9&&oj&&oc)))):=⟨by rw [hR,hO2,hO4,hO9,hOj,hOc,hA0];unfold nodeOk;dsimp only;rw [hgk]⟩;have HO2:=zS hO2;have HO4:=zS hO4;have HO9:=zS (And.intro hA0 hO9);have HOj:=zS hOj;have HOc:=zS hOc;clear hm hp hn hR hc hr hgk hO2 hO4 hO9 hOj hOc hA0;go_enter Tryz.func83,Tryz.ntmps83;go_upto_region 2 with fail;refine qaa (fun W=>TG w W (some ⟨b,off,none⟩) n cap nx ⟨⟨id,parent,name,dir,schema,quota,len,pieces,writer⟩,loc,cp⟩) (TG.new w (some ⟨b,off,none⟩) n cap nx ⟨⟨id,parent,name,dir,schema,quota,len,pieces,writer⟩,loc,cp⟩ 37 90) ?_;clear d0 d1 d2 d3 d4 d5 d6 d7 d8;intro W hg;have HG:=zS hg;obtain ⟨x0,x1⟩:=bwb2 hg.box;obtain ⟨y0,y1,y2,y3,y4⟩:=bwb5 hg.node;clear hg;go_cut [65] from 16 to 65 (fun b' wx=>b' = .bool (!o2)/\Sh (TG w wx (some ⟨b,off,none⟩) n cap nx ⟨⟨id,parent,name,dir,schema,quota,len,pieces,writer⟩,loc,cp⟩))
 case first =>
  by_cases hA:nx<=id
  ·have hA':decide (nx<=id)=true:=by simpa using hA
   have hE:o2=false:=by rw [HO2.1,decide_eq_false (by omega)];rfl
   go_quiet (fail)
   go_wp2_with fail;go_meet
   exact ⟨by rw [hE];rfl,⟨HG.1.drewN _⟩⟩
  ·have hA':decide (nx<=id)=false:=by simpa using hA
   have hAd:decide (id<nx)=true:=by simp;omega
   by_cases hz:k=0
   ·subst hz
    have hE0:o2=qbu ⟨id,parent,name,dir,schema,quota,len,pieces,writer⟩:=by rw [HO2.1,hAd];rfl
    unfold qbu at hE0;dsimp only at hE0;have HE0:=zS hE0;clear hE0
    by_cases f1:id=1
    case neg =>
     have f1':(id != 1)=true:=by simpa using f1
     have hE:o2=false:=by rw [HE0.1,show (id==1)=false by simpa using f1];rfl
     go_quiet (fail)
     go_wp2_with fail;go_meet
     exact ⟨by rw [hE];rfl,⟨HG.1.drewN _⟩⟩
    have f1':(id != 1)=false:=by simpa using f1
    by_cases f2:parent=0
    case neg =>
     have f2':(parent != 0)=true:=by simpa using f2
     have hE:o2=false:=by rw [HE0.1,show (parent==0)=false by simpa using f2];simp
     clear f1;go_quiet (fail)
     go_wp2_with fail;go_meet
     exact ⟨by rw [hE];rfl,⟨HG.1.drewN _⟩⟩
    have f2':(parent != 0)=false:=by simpa using f2
    by_cases f3:name=⟨#[]⟩
    case neg =>
     have f3':=text_no f3;have f3b:(name.toList != (⟨#[]⟩:ByteArray).toList)=true:=by rw [qie];exact f3'
     have f3c:(name.toList==[])=false:=by rw [beq_eq_false_iff_ne];rw [bne_iff_ne] at f3';exact f3'
     have f3d:(name.toList==(⟨#[]⟩:ByteArray).toList)=false:=by rw [qie];exact f3c
     have hE:o2=false:=by rw [HE0.1,decide_eq_false f3];simp
     clear f1 f2;go_quiet (fail)
     go_wp2_with fail;go_meet
     exact ⟨by rw [hE];rfl,⟨HG.1.drewN _⟩⟩
    have f3':(name.toList != [])=false:=by rw [f3];exact text_yes
    have f3b:(name.toList != (⟨#[]⟩:ByteArray).toList)=false:=by rw [qie];exact f3'
    have f3c:(name.toList==[])=true:=by rw [f3,qie];rfl
    have f3d:(name.toList==(⟨#[]⟩:ByteArray).toList)=true:=by rw [qie];exact f3c
    have hE1:o2=(dir&&(schema != 0)):=by rw [HE0.1,f1,f2,decide_eq_true f3];simp
    have HE1:=zS hE1;clear f1 f2 f3 HE0 hE1
    cases dir with
    | false =>
     have hE:o2=false:=by rw [HE1.1];rfl
     go_quiet (fail)
     go_wp2_with fail;go_meet
     exact ⟨by rw [hE];rfl,⟨HG.1.drewN _⟩⟩
    | true =>
     by_cases f5:schema=0
     ·have f5':(schema==0)=true:=by simpa using f5
      have hE:o2=false:=by rw [HE1.1,f5];rfl
      clear f5;go_quiet (fail)
      go_wp2_with fail;go_meet
      exact ⟨by rw [hE];rfl,⟨HG.1.drewN _⟩⟩
     ·have f5':(schema==0)=false:=by simpa using f5
      have hE:o2=true:=by rw [HE1.1,show (schema != 0)=true by simpa using f5];rfl
      go_quiet (fail)
      go_wp2_with fail;go_meet
      exact ⟨by rw [hE];rfl,⟨HG.1.drewN _⟩⟩
   ·obtain ⟨k1,hk1⟩:∃ k1,k1=k - 1:=⟨_,rfl⟩
    have hwr:IntKind.i64.wrap ((k:Int) - 1)=(k1:Int):=by rw [show (k:Int) - 1=(k1:Int) by omega];exact IntWalk.i64_in _ ⟨by omega,by omega⟩
    have hkp:(0:Int)<(k:Int):=by omega
    have hkp':decide ((0:Int)<(k:Int))=true:=by simp;omega
    have hkp2:0<k:=by omega
    have hkp3:decide (0<k)=true:=by simp;omega
    have hkz:((k:Int)==0)=false:=by rw [beq_eq_false_iff_ne];omega
    have h1a:(0:Int)<=(k1:Int):=by omega
    have h1b:(k1:Int)<(n:Int):=by omega
    have hl1:k1<rs.length:=by omega
    have e0:=(HC.1 W HG.1.bel k1 hl1).1;have hE0:o2=decide (rs[k1].nd.id<id):=by rw [HO2.1,hAd,if_neg hz,<-hk1,qcw hl1];simp
    generalize rs[k1].nd.id=pid at *;clear hk1
    by_cases hq:id<=pid
    ·have hq':decide (id<=pid)=true:=by simpa using hq
     have hE:o2=false:=by rw [hE0,decide_eq_false (by omega)]
     go_quiet (fail)
     go_wp2_with fail;go_meet
     exact ⟨by rw [hE];rfl,⟨HG.1.drewN _⟩⟩
    ·have hq':decide (id<=pid)=false:=by simpa using hq
     have hE:o2=true:=by rw [hE0,decide_eq_true (by omega)]
     go_quiet (fail)
     go_wp2_with fail;go_meet
     exact ⟨by rw [hE];rfl,⟨HG.1.drewN _⟩⟩
 case rest =>
  obtain ⟨rfl,hgc⟩:=hcut;obtain ⟨W2,hW2⟩:∃ W2,W2=wc:=⟨_,rfl⟩;subst hW2;clear HG x0 x1 y0 y1 y2 y3 y4 HO2;have HG:=zS hgc.1;clear hgc
  cases o2 with
  | false =>
   have HE:Sh (R=false):=⟨by rw [HR.1];rfl⟩;go_wp2_with fail;go_ret;exact ⟨by rw [HE.1];rfl,HG.1.bel⟩
  | true =>
   go_upto_region 4 with fail;have hg:=HG.1;obtain ⟨y0,y1,y2,y3,y4,y5,y6,y7,y8⟩:=bwb9 hg.node;dsimp only at y7;clear hg;go_cut [105] from 66 to 105 (fun b' wx=>b' = .bool (!o4)/\Sh (TG w wx (some ⟨b,off,none⟩) n cap nx ⟨⟨id,parent,name,dir,schema,quota,len,pieces,writer⟩,loc,cp⟩))
   case first =>
    cases dir with
    | false =>
     have hE:o4=fileOk ⟨id,parent,name,false,schema,quota,len,pieces,writer⟩:=HO4.1;have HFL:Sh (Calls Tryz.prog 139 #[.agg #[.int .i64 id,.int .i64 parent,.string name,.bool false,.int .i64 schema,.int .i64 quota,.int .i64 len,.slice loc pieces.length cp,.int .i64 writer]] W2 fun e w'=>e = .returned (.bool o4)/\Below W2.heap.size W2 w'):=⟨by rw [hE];exact specFile ⟨⟨id,parent,name,false,schema,quota,len,pieces,writer⟩,loc,cp⟩ W2 lo hi (HPK.1.1.below HG.1.bel) HPK.1.2.1⟩;generalize pieces.length=np at *;clear hE;go_wp2_with fail;refine HFL.1.mono ?_;rintro e w3 ⟨rfl,hb3⟩;have HG3:=zS (HG.1.below hb3);clear hb3;cases o4
     all_goals
      go_wp2_with fail;go_meet
      exact ⟨rfl,HG3⟩
    | true =>
     have hE0:o4=dirOk ⟨id,parent,name,true,schema,quota,len,pieces,writer⟩:=HO4.1;unfold dirOk at hE0;dsimp only at hE0;obtain ⟨np,hnp⟩:∃ np,np=pieces.length:=⟨_,rfl⟩;rw [<-hnp] at y7 hE0;clear hnp
     cases s1:inI schema 0 3 with
     | false =>
      have hE:o4=false:=by rw [hE0,s1];rfl
      go_wp2_with fail;refine (isInI schema 0 3 _ false s1).mono ?_;rintro e w3 ⟨rfl,hw3⟩;obtain rfl:W2=w3:=hw3.symm;clear hw3;go_wp2_with fail;go_meet
      exact ⟨by rw [hE];rfl,HG⟩
     | true =>
      cases s2:inI quota 0 1000 with
      | false =>
       have hE:o4=false:=by rw [hE0,s2];simp
       go_wp2_with fail;refine (isInI schema 0 3 _ true s1).mono ?_;rintro e w3 ⟨rfl,hw3⟩;obtain rfl:W2=w3:=hw3.symm;clear hw3;go_wp2_with fail;refine (isInI quota 0 1000 _ false s2).mono ?_;rintro e w3 ⟨rfl,hw3⟩;obtain rfl:W2=w3:=hw3.symm;clear hw3;go_wp2_with fail;go_meet
       exact ⟨by rw [hE];rfl,HG⟩
      | true =>
       have hE1:o4=((len==0)&&decide (np=0)&&(writer==0)):=by rw [hE0,s1,s2];simp
       clear hE0
       by_cases s3:len=0
       case neg =>
        have s3':(len != 0)=true:=by simpa using s3
        have hE:o4=false:=by rw [hE1,show (len==0)=false by simpa using s3];rfl
        go_wp2_with fail;refine (isInI schema 0 3 _ true s1).mono ?_;rintro e w3 ⟨rfl,hw3⟩;obtain rfl:W2=w3:=hw3.symm;clear hw3;go_wp2_with fail;refine (isInI quota 0 1000 _ true s2).mono ?_;rintro e w3 ⟨rfl,hw3⟩;obtain rfl:W2=w3:=hw3.symm;clear hw3;go_wp2_with fail;go_meet
        exact ⟨by rw [hE];rfl,HG⟩
       have s3':(len != 0)=false:=by simpa using s3
       by_cases s4:np=0
       case neg =>
        have s4':decide ((0:Int)<(np:Int))=true:=by simp;omega
        have s4'':(0:Int)<(np:Int):=by omega
        have hE:o4=false:=by rw [hE1,decide_eq_false s4];simp
        clear s3;go_wp2_with fail;refine (isInI schema 0 3 _ true s1).mono ?_;rintro e w3 ⟨rfl,hw3⟩;obtain rfl:W2=w3:=hw3.symm;clear hw3;go_wp2_with fail;refine (isInI quota 0 1000 _ true s2).mono ?_;rintro e w3 ⟨rfl,hw3⟩;obtain rfl:W2=w3:=hw3.symm;clear hw3;go_wp2_with fail;go_meet
        exact ⟨by rw [hE];rfl,HG⟩
       have s4':decide ((0:Int)<(np:Int))=false:=by simp;omega
       have s4'':¬ (0:Int)<(np:Int):=by omega
       have hE2:o4=(writer==0):=by rw [hE1,s3,s4];simp
       clear s3 s4 hE1
       by_cases s5:writer=0
       case neg =>
        have s5':(writer != 0)=true:=by simpa using s5
        have hE:o4=false:=by rw [hE2];simpa using s5
        go_wp2_with fail;refine (isInI schema 0 3 _ true s1).mono ?_;rintro e w3 ⟨rfl,hw3⟩;obtain rfl:W2=w3:=hw3.symm;clear hw3;go_wp2_with fail;refine (isInI quota 0 1000 _ true s2).mono ?_;rintro e w3 ⟨rfl,hw3⟩;obtain rfl:W2=w3:=hw3.symm;clear hw3;go_wp2_with fail;go_meet
        exact ⟨by rw [hE];rfl,HG⟩
       have s5':(writer != 0)=false:=by simpa using s5
       have hE:o4=true:=by rw [hE2];simpa using s5
       clear s5;go_wp2_with fail;refine (isInI schema 0 3 _ true s1).mono ?_;rintro e w3 ⟨rfl,hw3⟩;obtain rfl:W2=w3:=hw3.symm;clear hw3;go_wp2_with fail;refine (isInI quota 0 1000 _ true s2).mono ?_;rintro e w3 ⟨rfl,hw3⟩;obtain rfl:W2=w3:=hw3.symm;clear hw3;go_wp2_with fail;go_meet
       exact ⟨by rw [hE];rfl,HG⟩
   case rest =>
    obtain ⟨rfl,hgc⟩:=hcut;obtain ⟨W3,hW3⟩:∃ W3,W3=wc:=⟨_,rfl⟩;subst hW3;clear HG y0 y1 y2 y3 y4 y5 y6 y7 y8 HO4;have HG:=zS hgc.1;clear hgc
    cases o4 with
    | false =>
     have HE:Sh (R=false):=⟨by rw [HR.1];rfl⟩;go_wp2_with fail;go_ret;exact ⟨by rw [HE.1];rfl,HG.1.bel⟩
    | true =>
     by_cases hz:k=0
     ·subst hz
      have HE:Sh (R=true):=⟨by rw [HR.1];rfl⟩;go_wp2_with fail;go_ret;exact ⟨by rw [HE.1];rfl,HG.1.bel⟩
     ·have hkz:((k:Int)==0)=false:=by rw [beq_eq_false_iff_ne];omega
      have HRR:Sh (R=(o9&&oj&&oc)):=⟨by rw [HR.1,decide_eq_false hz];simp⟩;have hg:=HG.1;obtain ⟨x0,x1⟩:=bwb2 hg.box;have y1:=(hg.node.2 1 _ rfl).1;clear hg;have HTS:=zS (fun W (hW:Below w.heap.size w W) (id:Int)=>qgd (T:=⟨nds rs,nx⟩) (w:=W) (v:=.agg #[.slice (some ⟨b,off,none⟩) n cap,.int .i64 nx]) (lo:=lo) (hi:=hi) id ⟨_,cap,rs,by rw [HN.1],rfl,HM.1.1.below hW⟩ (by show (nds rs).length<=_;rw [qaf,<-HN.1];omega));dsimp only at HTS;have HAT:=zS (HTS.1 W3 HG.1.bel parent);rw [<-HO9.1.1] at HAT;clear HR;go_wp2_with fail;refine HAT.1.mono ?_;rintro e W4 ⟨rfl,hb4⟩;replace HG:=zS (HG.1.below hb4);clear hb4 HAT x0 x1 y1;go_upto_region 9 with fail;have hg:=HG.1;have x0:=(hg.box.2 0 _ rfl).1;have y2:=(hg.node.2 2 _ rfl).1;clear hg;go_cut [128] from 112 to 128 (fun b' wx=>b' = .bool (!o9)/\Sh (TG w wx (some ⟨b,off,none⟩) n cap nx ⟨⟨id,parent,name,dir,schema,quota,len,pieces,writer⟩,loc,cp⟩))
      case first =>
       have HNM:=zS (fun W=>qit name W HPK.1.2.2);have hE0:=HO9.1.2;have HE0:=zS hE0;clear hE0
       cases hnb:nameB name with
       | false =>
        have hE:o9=false:=by rw [HE0.1,hnb];rfl
        rw [hnb] at HNM;go_wp2_with fail;refine (HNM.1 _).mono ?_;rintro e W5 ⟨rfl,hb5⟩;have HG5:=zS (HG.1.below hb5);clear hb5;go_wp2_with fail;go_meet
        exact ⟨by rw [hE];rfl,HG5⟩
       | true =>
        rw [hnb] at HNM;rcases qgc (nds rs) parent with ⟨hat,_⟩ | ⟨m,hm,hat,_⟩
        ·have hAm:A = -1:=by rw [HO9.1.1,hat]
         have hE:o9=false:=by rw [HE0.1,hnb,hAm];rfl
         subst hAm;go_wp2_with fail;refine (HNM.1 _).mono ?_;rintro e W5 ⟨rfl,hb5⟩;have HG5:=zS (HG.1.below hb5);clear hb5;go_wp2_with fail;go_meet
         exact ⟨by rw [hE];rfl,HG5⟩
        ·have hAm:A=(m:Int):=by rw [HO9.1.1,hat]
         have hmr:m<rs.length:=by rw [qaf] at hm;exact hm
         have hE:o9=rs[m].nd.dir:=by rw [HE0.1,hnb,hAm,decide_eq_true (by omega),Int.toNat_natCast,qcw hmr];simp
         subst hAm;have m0:(0:Int)<=(m:Int):=by omega
         have m1:(m:Int)<(n:Int):=by have:=HN.1;omega
         have m2:¬ (m:Int)<0:=by omega
         have m3:decide ((m:Int)<0)=false:=by simp
         go_wp2_with fail;refine (HNM.1 _).mono ?_;rintro e W5 ⟨rfl,hb5⟩;have HG5:=zS (HG.1.below hb5);have e3:=(HC.1 W5 HG5.1.bel m hmr).2.2.2.1;have x0':=(HG5.1.box.2 0 _ rfl).1;rw [<-hE] at e3;clear hb5 hE;cases o9
         all_goals
          go_wp2_with fail;go_meet
          exact ⟨rfl,HG5⟩
      case rest =>
       obtain ⟨rfl,hgc⟩:=hcut;obtain ⟨W5,hW5⟩:∃ W5,W5=wc:=⟨_,rfl⟩;subst hW5;clear HG x0 y2 HO9;have HG:=zS hgc.1;clear hgc
       cases o9 with
       | false =>
        have HE:Sh (R=false):=⟨by rw [HRR.1];rfl⟩;go_wp2_with fail;go_ret;exact ⟨by rw [HE.1];rfl,HG.1.bel⟩
       | true =>
        have HRT:Sh (R=(oj&&oc)):=⟨by rw [HRR.1];simp⟩;clear HRR;rw [Bool.not_true];go_wp2_with fail;go_loopw [7] (fun jv wr=>∃ (j:Nat),jv = .int .i64 j/\j<=k/\Sh (∀ q,q<j->(! ((((nds rs).getD q default).parent==parent)&&decide (((nds rs).getD q default).name=name)))=true)/\Sh (TG w wr (some ⟨b,off,none⟩) n cap nx ⟨⟨id,parent,name,dir,schema,quota,len,pieces,writer⟩,loc,cp⟩)) (fun jv _=>k - (intOf jv).toNat)
        case atStart=>exact ⟨0,rfl,Nat.zero_le _,⟨fun q hq=>by omega⟩,HG⟩
        case round =>
         clear HG;obtain ⟨j,rfl,hj,hall,HG⟩:=hrel
         by_cases hlt:j<k
         ·have hjr:j<rs.length:=by omega
          have j0:(0:Int)<=(j:Int):=by omega
          have j1:(j:Int)<(n:Int):=by omega
          have j2:(j:Int)<(k:Int):=by omega
          have hg:=HG.1;have x0:=(hg.box.2 0 _ rfl).1;have y1:=(hg.node.2 1 _ rfl).1;have y2:=(hg.node.2 2 _ rfl).1;have e1:=(HC.1 _ hg.bel j hjr).2.1;have e2:=(HC.1 _ hg.bel j hjr).2.2.1;have HJ:Sh ((nds rs).getD j default=rs[j].nd):=⟨qcw hjr⟩;clear hg;generalize rs[j].nd=q at *
          by_cases p1:q.parent=parent
          ·have p1':(q.parent==parent)=true:=by simpa using p1
           by_cases p2:q.name=name
           ·have p2':(q.name.toList==name.toList)=true:=by rw [p2];simp
            have hoj:oj=false:=by
             rw [HOj.1]
             cases e:(List.range k).all _ with
             | false=>rfl
             | true =>
              rw [List.all_eq_true] at e;have:=e j (List.mem_range.2 hlt);rw [HJ.1,p1',decide_eq_true p2] at this;cases this
            have HE:Sh (R=false):=⟨by rw [HRT.1,hoj];rfl⟩;clear hoj p1 p2 hall;go_wp2_with fail;go_quiet (fail)
            go_wp2_with fail;go_ret;exact ⟨by rw [HE.1];rfl,(HG.1.drewN _).bel⟩
           ·have p2':=qsl p2
            have HAL:Sh (∀ q,q<j+1->(! ((((nds rs).getD q default).parent==parent)&&decide (((nds rs).getD q default).name=name)))=true):=⟨fun i hi=>by
             by_cases e:i=j
             ·subst e;rw [HJ.1,decide_eq_false p2];simp
             ·exact hall.1 i (by omega)⟩
            clear hall p1 p2;go_wp2_with fail;go_quiet (fail)
            go_wp2_with fail;go_roundw
            case rel=>exact ⟨j+1,by go_num,by omega,HAL,⟨HG.1.drewN _⟩⟩
            case measure=>simp [intOf];omega
          ·have p1':(q.parent==parent)=false:=by simpa using p1
           have HAL:Sh (∀ q,q<j+1->(! ((((nds rs).getD q default).parent==parent)&&decide (((nds rs).getD q default).name=name)))=true):=⟨fun i hi=>by
            by_cases e:i=j
            ·subst e;rw [HJ.1,p1'];rfl
            ·exact hall.1 i (by omega)⟩
           clear hall p1;go_wp2_with fail;go_quiet (fail)
           go_wp2_with fail;go_roundw
           case rel=>exact ⟨j+1,by go_num,by omega,HAL,⟨HG.1.drewN _⟩⟩
           case measure=>simp [intOf];omega
         ·have hlt':¬ (j:Int)<(k:Int):=by omega
          have hoj:oj=true:=by rw [HOj.1,List.all_eq_true];exact fun i hi=>hall.1 i (by have:=List.mem_range.1 hi;omega)
          have HRC:Sh (R=oc):=⟨by rw [HRT.1,hoj];rfl⟩;have hg:=HG.1;have y0:=(hg.node.2 0 _ rfl).1;clear hg hoj hall HRT;go_wp2_with fail;go_loopw [8,9] (fun iv mv wr=>∃ (m:Nat) (c:Int),iv = .int .i64 c/\mv = .int .i64 m/\m<=4/\Sh (climbs (nds rs) 4 id=climbs (nds rs) (4 - m) c)/\Sh (TG w wr (some ⟨b,off,none⟩) n cap nx ⟨⟨id,parent,name,dir,schema,quota,len,pieces,writer⟩,loc,cp⟩)) (fun _ mv _=>4 - (intOf mv).toNat)
          case atStart=>exact ⟨0,id,rfl,rfl,by omega,⟨rfl⟩,HG⟩
          case round =>
           clear HG y0;obtain ⟨m,c,rfl,rfl,hm4,hcl,HG⟩:=hrel
           by_cases hlt4:m<4
           ·have m4:(m:Int)<4:=by omega
            obtain ⟨f,hf⟩:∃ f,f=4 - (m+1):=⟨_,rfl⟩;have hfm:4 - m=f+1:=by omega
            have hcl':=hcl.1;rw [hfm] at hcl';have hg:=HG.1;obtain ⟨x0,x1⟩:=bwb2 hg.box;clear hg;have HAT:=zS (HTS.1 _ HG.1.bel c);rcases qgc (nds rs) c with ⟨hat,hno⟩ | ⟨i,hi,hat,hid⟩
            ·have hfn:(nds rs).findIdx? (fun n=>n.id==c)=none:=List.findIdx?_eq_none_iff.2 (fun n hn=>by simpa using hno n hn)
             have HE:Sh (R=false):=⟨by rw [HRC.1,HOc.1,hcl',climbs_none hfn]⟩;rw [hat] at HAT;clear hcl' hfn hno hat hcl;go_wp2_with fail;refine HAT.1.mono ?_;rintro e W6 ⟨rfl,hb6⟩;have HG6:=zS (HG.1.below hb6);clear hb6;go_wp2_with fail;go_ret;exact ⟨by rw [HE.1];rfl,HG6.1.bel⟩
            ·have hir:i<rs.length:=by rw [qaf] at hi;exact hi
             have hfn:(nds rs).findIdx? (fun n=>n.id==c)=some i:=by
              unfold atI at hat;split at hat
              ·rename_i q hq;rw [hq];congr 1;omega
              ·omega
             rw [climbs_some hfn,qcw hir] at hcl';have HCL:=zS hcl';rw [hat] at HAT;have i0:(0:Int)<=(i:Int):=by omega
             have i1:(i:Int)<(n:Int):=by have:=HN.1;omega
             have i2:¬ (i:Int)<0:=by omega
             clear hcl' hfn hat hcl hid hi;go_wp2_with fail;refine HAT.1.mono ?_;rintro e W6 ⟨rfl,hb6⟩;have HG6:=zS (HG.1.below hb6);clear hb6 x0 x1 HAT;have x0:=(HG6.1.box.2 0 _ rfl).1;have e1:=(HC.1 W6 HG6.1.bel i hir).2.1;generalize rs[i].nd.parent=pp at *
             by_cases hpp:pp=1
             ·have hpp':(pp==1)=true:=by simpa using hpp
              have HE:Sh (R=true):=⟨by rw [HRC.1,HOc.1,HCL.1,if_pos hpp]⟩;clear hpp HCL;go_wp2_with fail;go_ret;exact ⟨by rw [HE.1];rfl,HG6.1.bel⟩
             ·have hpp':(pp==1)=false:=by simpa using hpp
              have HNX:Sh (climbs (nds rs) 4 id=climbs (nds rs) (4 - (m+1)) pp):=⟨by rw [<-hf,HCL.1,if_neg hpp]⟩;clear hpp HCL hf hfm;go_wp2_with fail;go_roundw
              case rel=>exact ⟨m+1,pp,rfl,by go_num,by omega,HNX,HG6⟩
              case measure=>simp [intOf];omega
           ·have hm:m=4:=by omega
            have HE:Sh (R=false):=⟨by rw [HRC.1,HOc.1,hcl.1,hm];rfl⟩;have m4:¬ (m:Int)<4:=by omega
            clear hm hcl;go_wp2_with fail;go_ret;exact ⟨by rw [HE.1];rfl,HG.1.bel⟩
end
end Go.Proofs.YtackbhpgdohimaaGreatDoor
