/- Texts of ours, laid one behind the other: LkG, LkH, LkI, LkJ, LkO, TreK, LkS, LawTre, LawTrw, LkT, SpE, ApR, ApS, ApT, ApU, WayM, WayN, FndM, StM, EdP, EdQ, EdR, EdS, EdX, LogA, TInt, StN. -/
import Derived.Test.YtackbhpgdohimaaGreatDoorQk8
import Derived.Test.YtackbhpgdohimaaGreatDoorQk3
import Derived.Test.YtackbhpgdohimaaGreatDoorQk5
import Derived.Test.YtackbhpgdohimaaGreatDoorQk4
import Derived.Test.YtackbhpgdohimaaGreatDoorQk1
import Derived.Test.YtackbhpgdohimaaGreatDoorQk2
import Derived.Test.YtackbhpgdohimaaGreatDoorQkSpB
import Derived.Test.YtackbhpgdohimaaGreatDoorQkSpC
import Derived.Test.YtackbhpgdohimaaGreatDoorQkSpD
import Derived.Test.YtackbhpgdohimaaGreatDoorQk6
import Derived.Test.YtackbhpgdohimaaGreatDoorQk7
import Derived.BigQuiet
import Derived.Sort.OwnSorted
import Derived.Sort.Walk0
import Derived.Sort.KeysCollected
import Derived.Laws.IdiomRangeMap
/- LkG: . -/
namespace Go.Proofs.YtackbhpgdohimaaGreatDoor
set_option maxRecDepth 100000
set_option maxHeartbeats 16000000
open Go.RowKit
attribute [local go_sem ↓] Go.wp_at_zero Go.wp_at_succ
section
open Go.Maps BigFrame
variable {rs:List NR} {k:Nat} {T:TM} {w:World}
theorem implRootOk (id parent:Int) (name:ByteArray) (dir:Bool) (schema quota len writer:Int) (loc:Option Addr) (n cap:Nat) (w:World):Calls Tryz.prog 109 #[.agg #[.int .i64 id,.int .i64 parent,.string name,.bool dir,.int .i64 schema,.int .i64 quota,.int .i64 len,.slice loc n cap,.int .i64 writer]] w fun e w'=>e = .returned (.bool ((id==1)&&(parent==0)&&(name.toList==[])&&dir&&inI schema 1 3))/\Below w.heap.size w w':=by
 obtain ⟨R,hR⟩:∃ R,R=((id==1)&&(parent==0)&&(name.toList==[])&&dir&&inI schema 1 3):=⟨_,rfl⟩;have HR:=zS hR;rw [<-hR];clear hR;go_enter Tryz.func109,Tryz.ntmps109;go_wp2_with (go_at_call 149;refine (qdi _ _).mono ?_;rintro e w1 ⟨rfl,rfl⟩)
 all_goals
  go_ret;exact ⟨by rw [HR.1];simp [*],zB.alloc zL _⟩
theorem implDirOk (id parent:Int) (name:ByteArray) (dir:Bool) (schema quota len writer:Int) (loc:Option Addr) (n cap:Nat) (w:World):Calls Tryz.prog 151 #[.agg #[.int .i64 id,.int .i64 parent,.string name,.bool dir,.int .i64 schema,.int .i64 quota,.int .i64 len,.slice loc n cap,.int .i64 writer]] w fun e w'=>e = .returned (.bool (((schema==0)||inI schema 1 3)&&decide (0<=quota)&&decide (quota<=1000)&&(len==0)&&((n:Int)==0)&&(writer==0)))/\Below w.heap.size w w':=by
 obtain ⟨R,hR⟩:∃ R,R=(((schema==0)||inI schema 1 3)&&decide (0<=quota)&&decide (quota<=1000)&&(len==0)&&((n:Int)==0)&&(writer==0)):=⟨_,rfl⟩;have HR:=zS hR;rw [<-hR];clear hR;go_enter Tryz.func151,Tryz.ntmps151;go_wp2_with (go_at_call 149;refine (qdi _ _).mono ?_;rintro e w1 ⟨rfl,rfl⟩)
 all_goals
  go_ret;exact ⟨by rw [HR.1];first | (simp [*];done) | (simp [*];omega),zB.alloc zL _⟩
def fileQ (schema quota len writer:Int) (ps:List PM):Bool:=inI schema 1 3&&(quota==0)&&inI writer 0 9&&decide (ps.length<=40)&&ps.all (qba schema)&&(sumP ps==len)&&decide (sumP ps<=1000)
theorem fileQ_piece {schema quota len writer:Int} {ps:List PM} (hk:k<ps.length) (h:qba schema ps[k]=false):fileQ schema quota len writer ps=false:=by
 unfold fileQ;have:ps.all (qba schema)=false:=Bool.eq_false_iff.2 fun hc=>by rw [List.all_eq_true.1 hc _ (List.getElem_mem hk)] at h;cases h
 rw [this];simp
theorem implFileOk (id parent:Int) (name:ByteArray) (dir:Bool) (schema quota len writer:Int) (loc:Option Addr) (ps:List PM) (cap:Nat) (w:World) {lo hi:Nat} (hp:RRow w loc (pcs ps) lo hi) (hl:ps.length<=1048576) :
  Calls Tryz.prog 152 #[.agg #[.int .i64 id,.int .i64 parent,.string name,.bool dir,.int .i64 schema,.int .i64 quota,.int .i64 len,.slice loc ps.length cap,.int .i64 writer]] w fun e w'=>e = .returned (.bool (fileQ schema quota len writer ps))/\Below w.heap.size w w':=by
 obtain ⟨R,hR⟩:∃ R,R=fileQ schema quota len writer ps:=⟨_,rfl⟩;have HR:=zS hR;rw [<-hR];obtain ⟨n,hn⟩:∃ n,n=ps.length:=⟨_,rfl⟩;rw [<-hn] at hl ⊢;have HN:=zS hn;have HP:=zS hp;clear hR hn hp
 by_cases hh:inI schema 1 3=true/\quota=0/\0<=writer/\writer<=9/\n<=40
 ·obtain ⟨h1,rfl,h3,h4,h5⟩:=hh
  have h5':¬ (40:Int)<(n:Int):=by omega
  go_enter Tryz.func152,Tryz.ntmps152;go_upto_region 3 with (go_at_call 149;refine (qdi _ _).mono ?_;rintro e w1 ⟨rfl,rfl⟩);refine qaa (fun W=>Below w.heap.size w W/\WCells W w.heap.size [.int .i64 id,.int .i64 parent,.string name,.bool dir,.int .i64 schema,.int .i64 0,.int .i64 len,.slice loc n cap,.int .i64 writer]) ⟨zB.alloc zL _,qac w #[.int .i64 id,.int .i64 parent,.string name,.bool dir,.int .i64 schema,.int .i64 0,.int .i64 len,.slice loc n cap,.int .i64 writer] 90⟩ ?_;intro W hW;have HW:=zS hW;have c7:=(hW.2.2 7 _ rfl).1;clear hW;go_wp2_with fail;go_loopw [3,34] (fun sm i wr=>∃ (k:Nat),sm = .int .i64 (sumP (ps.take k))/\i = .int .i64 k/\k<=n/\Sh (∀ j (hj:j<ps.length),j<k->qba schema ps[j]=true)/\Sh (Below w.heap.size w wr/\WCells wr w.heap.size [.int .i64 id,.int .i64 parent,.string name,.bool dir,.int .i64 schema,.int .i64 0,.int .i64 len,.slice loc n cap,.int .i64 writer])) (fun _ i _=>n - (intOf i).toNat)
  case atStart=>exact ⟨0,rfl,rfl,Nat.zero_le _,⟨fun _ _ h=>absurd h (Nat.not_lt_zero _)⟩,HW⟩
  case round =>
   clear HW c7;obtain ⟨k,rfl,rfl,hk,hall,hW⟩:=hrel
   have hsum:0<=sumP (ps.take k)/\sumP (ps.take k)<=32*40:=by
    have:=qsk (s:=schema) (ps:=ps.take k) (fun p hp=>by
     obtain ⟨j,hj,rfl⟩:=List.mem_iff_getElem.1 hp;simp only [List.getElem_take];simp only [List.length_take] at hj
     exact hall.1 j (by omega) (by omega))
    have hlt:(ps.take k).length<=40:=by simp;omega
    omega
   have c4:=(hW.1.2.2 4 _ rfl).1;have c6:=(hW.1.2.2 6 _ rfl).1;have lw:=hW.1.2.1
   by_cases hlt:k<n
   ·have hkp:k<ps.length:=by rw [<-HN.1];exact hlt
    obtain ⟨b,off,rfl,lb,hc⟩:=qmh HP.1 (by omega);obtain ⟨p0,p1⟩:=hc k hkp;rw [<-hW.1.1.cell (p:=⟨b,off+k*2,none⟩) lb] at p0;rw [<-hW.1.1.cell (p:=⟨b,off+k*2+1,none⟩) lb] at p1;have hst:=qpe ps k hkp;obtain ⟨q,hq⟩:∃ q,q=ps[k]:=⟨_,rfl⟩;rw [<-hq] at p0 p1 hst;have HQ:=zS hq;have HST:=zS hst;have lb':b<wr.heap.size:=Nat.lt_of_lt_of_le lb hW.1.1.size;have k0:(0:Int)<=(k:Int):=by omega
    have k1:(k:Int)<(n:Int):=by omega
    have HSZ:=zS (fun W=>qqu schema W);have hgb:=qct schema;obtain ⟨sm,hsm⟩:∃ sm,sm=sumP (ps.take k):=⟨_,rfl⟩;rw [<-hsm] at hsum HST ⊢;have HSM:=zS hsm;have hpk:qba schema q=(decide (1<=q.group)&&decide (q.group<=100000)&&(decide (1<=q.len)&&decide (q.len<=(qbl schema:Nat)))):=rfl;have HPK:=zS hpk;obtain ⟨gn,hgn⟩:∃ gn,gn=qbl schema:=⟨_,rfl⟩;rw [<-hgn] at HSZ HPK hgb;obtain ⟨gr,ln⟩:=q;have HBW:Sh (∀ W,Below wr.heap.size wr W->Below w.heap.size w W):=⟨fun W hb=>hW.1.1.trans (hb.mono hW.1.1.size)⟩;clear hc hq hst hsm hpk hgn;have HNO:Sh (qba schema ⟨gr,ln⟩=false->Ending.returned (.bool false) = .returned (.bool R)):=⟨fun h=>by rw [HR.1,fileQ_piece hkp (by rw [<-HQ.1];exact h)]⟩;dsimp only at p0 p1 HST HPK;have HQQ:=HQ;go_upto_region 7 with fail
    by_cases a1:gr<1
    ·go_quiet (first | (go_at_call 163;exact Calls.quiet_of_same (HSZ.1 _)))
     go_wp2_with fail;go_ret;exact ⟨HNO.1 (by rw [HPK.1];simp;omega),HBW.1 _ ((zB.alloc zL _).trans (Below.mono (B:=wr.heap.size) ⟨rfl,rfl,rfl,zL,fun _ _=>rfl⟩ zL))⟩
    ·by_cases a2:100000<gr
     ·go_quiet (first | (go_at_call 163;exact Calls.quiet_of_same (HSZ.1 _)))
      go_wp2_with fail;go_ret;exact ⟨HNO.1 (by rw [HPK.1];simp;omega),HBW.1 _ ((zB.alloc zL _).trans (Below.mono (B:=wr.heap.size) ⟨rfl,rfl,rfl,zL,fun _ _=>rfl⟩ zL))⟩
     ·by_cases a3:ln<1
      ·go_quiet (first | (go_at_call 163;exact Calls.quiet_of_same (HSZ.1 _)))
       go_wp2_with fail;go_ret;exact ⟨HNO.1 (by rw [HPK.1];simp;omega),HBW.1 _ ((zB.alloc zL _).trans (Below.mono (B:=wr.heap.size) ⟨rfl,rfl,rfl,zL,fun _ _=>rfl⟩ zL))⟩
      ·by_cases a4:(gn:Int)<ln
       ·go_quiet (first | (go_at_call 163;exact Calls.quiet_of_same (HSZ.1 _)))
        go_wp2_with fail;go_ret;exact ⟨HNO.1 (by rw [HPK.1];simp;omega),HBW.1 _ ((zB.alloc zL _).trans (Below.mono (B:=wr.heap.size) ⟨rfl,rfl,rfl,zL,fun _ _=>rfl⟩ zL))⟩
       ·go_quiet (first | (go_at_call 163;exact Calls.quiet_of_same (HSZ.1 _)))
        go_wp2_with fail;go_roundw
        case rel =>
         have hpo:qba schema ⟨gr,ln⟩=true:=by rw [HPK.1];simp;omega
         have hbn:Below wr.heap.size wr ((wr.alloc (.cells #[.int .i64 gr,.int .i64 ln] 143)).drewN nq):=(zB.alloc zL _).trans (Below.mono (B:=wr.heap.size) ⟨rfl,rfl,rfl,zL,fun _ _=>rfl⟩ zL);refine ⟨k+1,?_,by go_num,by omega,⟨fun j hj hjk=>?_⟩,⟨HBW.1 _ hbn,hW.1.2.grow hbn⟩⟩
         ·rw [HST.1]
         ·rcases Nat.lt_succ_iff_lt_or_eq.1 hjk with h | h
          ·exact hall.1 j hj h
          ·subst h
           rw [<-HQ.1];exact hpo
        case measure=>simp [intOf];omega
   ·have hlt':¬ (k:Int)<(n:Int):=by omega
    obtain rfl:k=n:=by omega
    have hts:sumP (ps.take k)=sumP ps:=by rw [HN.1,List.take_length]
    have hallp:ps.all (qba schema)=true:=List.all_eq_true.2 fun p hp=>by
     obtain ⟨j,hj,rfl⟩:=List.mem_iff_getElem.1 hp;exact hall.1 j hj (by rw [HN.1];exact hj)
    have hRR:R=((sumP ps==len)&&decide (sumP ps<=1000)):=by
     rw [HR.1];unfold fileQ;rw [hallp,h1,show inI writer 0 9=true from inI_iff.2 ⟨h3,h4⟩,decide_eq_true (by rw [<-HN.1];exact h5)];simp
    have HRR:=zS hRR;rw [hts] at hsum ⊢;generalize sumP ps=sm at *;clear hallp hRR hts;go_wp2_with fail
    all_goals
     go_ret;refine ⟨?_,hW.1.1⟩;rw [HRR.1]
     first | (simp [*];done) | (simp [*];intros;omega)
 ·have HH:=zS hh
  have hRF:R=false:=by
   rw [HR.1];refine Bool.eq_false_iff.2 fun hc=>hh ?_;unfold fileQ at hc;simp only [Bool.and_eq_true,beq_iff_eq,decide_eq_true_eq] at hc;obtain ⟨⟨⟨⟨⟨⟨a1,a2⟩,a3⟩,a4⟩,_⟩,_⟩,_⟩:=hc;exact ⟨a1,a2,(inI_iff.1 a3).1,(inI_iff.1 a3).2,by rw [HN.1];exact a4⟩
  rw [hRF];clear hh hRF;go_enter Tryz.func152,Tryz.ntmps152;go_upto_region 3 with (go_at_call 149;refine (qdi _ _).mono ?_;rintro e w1 ⟨rfl,rfl⟩)
  all_goals first
   | (go_ret;exact ⟨rfl,zB.alloc zL _⟩)
   | exact absurd ⟨by assumption,by omega,by omega,by omega,by omega⟩ HH.1
theorem dirQ_is (n:NM):(((n.schema==0)||inI n.schema 1 3)&&decide (0<=n.quota)&&decide (n.quota<=1000)&&(n.len==0)&&((n.pieces.length:Int)==0)&&(n.writer==0))=dirOk n:=by
 unfold dirOk
 have e1:((n.schema==0)||inI n.schema 1 3)=inI n.schema 0 3:=by
  unfold inI;rw [Bool.eq_iff_iff];simp;omega
 have e2:inI n.quota 0 1000=(decide (0<=n.quota)&&decide (n.quota<=1000)):=rfl
 have e3:((n.pieces.length:Int)==0)=decide (n.pieces.length=0):=by
  rw [Bool.eq_iff_iff];simp
 rw [e1,e2,e3];cases inI n.schema 0 3 <;> cases decide (0<=n.quota) <;> cases decide (n.quota<=1000) <;> rfl
theorem fileQ_is (n:NM):fileQ n.schema n.quota n.len n.writer n.pieces=fileOk n:=by
 unfold fileQ fileOk;cases inI n.schema 1 3 <;> cases (n.quota==0) <;> cases inI n.writer 0 9 <;> cases decide (n.pieces.length<=40) <;> rfl
theorem rootQ_is (n:NM):((n.id==1)&&(n.parent==0)&&(n.name.toList==[])&&n.dir&&inI n.schema 1 3)=rootB n:=by
 unfold rootB
 have:(n.name.toList==[])=decide (n.name=⟨#[]⟩):=by
  rw [Bool.eq_iff_iff];simp only [beq_iff_eq,decide_eq_true_eq];constructor
  ·intro h
   rw [Go.ByteArray.toList_eq] at h;exact ByteArray.ext (Array.toList_inj.1 h)
  ·intro h
   rw [h,Go.ByteArray.toList_eq]
 rw [this]
theorem implNodeOk_any (id parent:Int) (name:ByteArray) (dir:Bool) (schema quota len writer:Int) (loc:Option Addr) (ps:List PM) (cap:Nat) (w:World) {lo hi:Nat} (hp:RRow w loc (pcs ps) lo hi) (hl:ps.length<=1048576) :
  Calls Tryz.prog 111 #[.agg #[.int .i64 id,.int .i64 parent,.string name,.bool dir,.int .i64 schema,.int .i64 quota,.int .i64 len,.slice loc ps.length cap,.int .i64 writer]] w fun e w'=>e = .returned (.bool (if dir then dirOk ⟨id,parent,name,dir,schema,quota,len,ps,writer⟩ else fileOk ⟨id,parent,name,dir,schema,quota,len,ps,writer⟩))/\Below w.heap.size w w':=by
 have h1:=fun W=>implDirOk id parent name dir schema quota len writer loc ps.length cap W;have h2:=fun W (hb:Below w.heap.size w W)=>implFileOk id parent name dir schema quota len writer loc ps cap W (hp.below hb) hl;rw [<-dirQ_is,<-fileQ_is];dsimp only;generalize fileQ schema quota len writer ps=f at *;obtain ⟨n,hn⟩:∃ n,n=ps.length:=⟨_,rfl⟩;rw [<-hn] at h1 h2 ⊢;generalize ((schema==0||inI schema 1 3)&&decide (0<=quota)&&decide (quota<=1000)&&len==0&&(n:Int)==0&&writer==0)=d at *;have H1:=zS h1;have H2:=zS h2;clear h1 h2 hn hp hl
 cases dir with
 | true =>
  go_enter Tryz.func111,Tryz.ntmps111;go_wp2_with fail;refine (H1.1 _).mono ?_;rintro e w1 ⟨rfl,hb⟩;go_wp2_with fail;go_ret;exact ⟨rfl,(zB.alloc zL _).trans (hb.mono (by simp))⟩
 | false =>
  go_enter Tryz.func111,Tryz.ntmps111;go_wp2_with fail;refine (H2.1 _ (zB.alloc zL _)).mono ?_;rintro e w1 ⟨rfl,hb⟩;go_wp2_with fail;go_ret;exact ⟨rfl,(zB.alloc zL _).trans (hb.mono (by simp))⟩
theorem implNodeOk (r:NR) (w:World) {lo hi:Nat} (hp:RRow w r.loc (pcs r.nd.pieces) lo hi) (hl:r.nd.pieces.length<=1048576):Calls Tryz.prog 111 #[nv r] w fun e w'=>e = .returned (.bool (kindB r.nd))/\Below w.heap.size w w':=
 implNodeOk_any r.nd.id r.nd.parent r.nd.name r.nd.dir r.nd.schema r.nd.quota r.nd.len r.nd.writer r.loc r.nd.pieces r.cap w hp hl
def IdsTo (T:TM) (k:Nat):Prop:=∀ j,j<k->(T.nodes.getD j default).id<T.next/\(j=0\/(T.nodes.getD (j - 1) default).id<(T.nodes.getD j default).id)
theorem ids_yes (h:T.next<=100000) (hk:IdsTo T T.nodes.length):idsB T=true:=by
 unfold idsB;rw [decide_eq_true h];simp only [Bool.true_and];refine List.all_eq_true.2 fun i hi=>?_;obtain ⟨h1,h2⟩:=hk i (by simpa using hi);rw [decide_eq_true h1];rcases h2 with e | e
 ·simp [e]
 ·rw [decide_eq_true e];simp
theorem qsq (hk:k<T.nodes.length) (h:¬ ((T.nodes.getD k default).id<T.next/\(k=0\/(T.nodes.getD (k - 1) default).id<(T.nodes.getD k default).id))):idsB T=false:=by
 refine Bool.eq_false_iff.2 fun hc=>h ?_;unfold idsB at hc;simp only [Bool.and_eq_true,List.all_eq_true,List.mem_range,Bool.or_eq_true,decide_eq_true_eq] at hc;exact hc.2 k hk
theorem ids_next (h:¬ T.next<=100000):idsB T=false:=by
 unfold idsB;rw [decide_eq_false h];simp
theorem implIdsOk {v:Value} {lo hi:Nat} (h:TSee w v T lo hi) (hf:NFit T):Calls Tryz.prog 108 #[v] w fun e w'=>e = .returned (.bool (idsB T))/\Below w.heap.size w w':=by
 obtain ⟨a,cap,rs,rfl,hr,hm⟩:=h;have hl:rs.length<=1048576:=by unfold NFit at hf;rw [<-hr,qaf] at hf;omega
 obtain ⟨R,hR⟩:∃ R,R=idsB T:=⟨_,rfl⟩;rw [<-hR];have HR:=zS hR;have hlen:rs.length=T.nodes.length:=by rw [<-hr,qaf]
 have hget:∀ j (hj:j<rs.length),T.nodes.getD j default=rs[j].nd:=fun j hj=>by
  rw [<-hr,getD_in (by rw [qaf];exact hj)];simp [nds]
 have HG:=zS hget;obtain ⟨n,hn⟩:∃ n,n=rs.length:=⟨_,rfl⟩;rw [<-hn] at hl hlen ⊢;have HL:=zS hlen;have HN:=zS hn;have HM:=zS hm;obtain ⟨nx,hnx⟩:∃ nx,nx=T.next:=⟨_,rfl⟩;rw [<-hnx];have HX:=zS hnx;clear hR hr hm hf hlen hget hn hnx
 by_cases h1:nx<=100000
 ·go_enter Tryz.func108,Tryz.ntmps108
  go_upto_region 3 with fail;refine qaa (fun W=>BX w W a n cap nx) (BX.new w a n cap nx 37) ?_;intro W hg;have HW:=zS hg;have x0:=(hg.box.2 0 _ rfl).1;clear hg;go_wp2_with fail;go_loopw [11] (fun i wr=>∃ (k:Nat),i = .int .i64 k/\k<=n/\Sh (IdsTo T k)/\Sh (BX w wr a n cap nx)) (fun i _=>n - (intOf i).toNat)
  case atStart=>exact ⟨0,rfl,Nat.zero_le _,⟨fun _ h=>absurd h (Nat.not_lt_zero _)⟩,HW⟩
  case round =>
   clear HW x0;obtain ⟨k,rfl,hk,hto,hW⟩:=hrel;obtain ⟨x0,x1⟩:=bwb2 hW.1.box;have lw:=hW.1.box.1
   by_cases hlt:k<n
   ·have hkr:k<rs.length:=by rw [<-HN.1];exact hlt
    obtain ⟨b,off,rfl,lb,hc⟩:=TR.nat HM.1 (by omega);have hnk:=(hc k hkr).below hW.1.bel lb;have hge:=HG.1 k hkr;obtain ⟨r,hr⟩:∃ r,r=rs[k]:=⟨_,rfl⟩;rw [<-hr] at hnk hge;have HGE:=zS hge;obtain ⟨c0,c1,c2,c3,c4,c5,c6,c7,c8⟩:=hnk;have lb':b<wr.heap.size:=Nat.lt_of_lt_of_le lb hW.1.bel.size;have k0:(0:Int)<=(k:Int):=by omega
    have k1:(k:Int)<(n:Int):=by omega
    have HBN:Sh (∀ q,BX w ((wr.alloc (.cells #[.int .i64 r.nd.id,.int .i64 r.nd.parent,.string r.nd.name,.bool r.nd.dir,.int .i64 r.nd.schema,.int .i64 r.nd.quota,.int .i64 r.nd.len,.slice r.loc r.nd.pieces.length r.cap,.int .i64 r.nd.writer] 90)).drewN q) (some ⟨b,off,none⟩) n cap nx):=⟨fun q=>hW.1.below ((zB.alloc zL _).trans (Below.mono (B:=wr.heap.size) ⟨rfl,rfl,rfl,zL,fun _ _=>rfl⟩ zL))⟩
    have hpr:∀ (hkp:0<k),wr.cell? ⟨b,off+(k - 1)*9,none⟩=some (.int .i64 (T.nodes.getD (k - 1) default).id):=fun hkp=>by
     rw [HG.1 (k - 1) (by omega)];exact ((hc (k - 1) (by omega)).below hW.1.bel lb).1
    have HPR:=zS hpr;clear hc hr hge hpr;obtain ⟨pid,hpid⟩:∃ p,p=(T.nodes.getD (k - 1) default).id:=⟨_,rfl⟩;rw [<-hpid] at HPR;have HPI:=zS hpid;clear hpid;obtain ⟨id,hid⟩:∃ p,p=r.nd.id:=⟨_,rfl⟩;rw [<-hid] at c0 HBN;have HID:=zS hid;clear hid
    by_cases a1:nx<=id
    ·have HF:Sh (R=false):=⟨by rw [HR.1];exact qsq (by rw [<-HL.1];exact hlt) (fun hc=>by rw [HGE.1,<-HID.1,<-HX.1] at hc;omega)⟩
     go_upto_region 6 with fail;go_quiet (fail)
     go_wp2_with fail;go_ret;exact ⟨by rw [HF.1];rfl,(HBN.1 _).bel⟩
    ·by_cases a2:0<k
     ·have cp:=HPR.1 a2
      have hk1:(k:Int) - 1=((k - 1:Nat):Int):=by omega
      have hk2:(0:Int)<=((k - 1:Nat):Int):=by omega
      have hk3:((k - 1:Nat):Int)<(n:Int):=by omega
      have hkp:(0:Int)<(k:Int):=by omega
      by_cases a3:id<=pid
      ·have HF:Sh (R=false):=⟨by rw [HR.1];exact qsq (by rw [<-HL.1];exact hlt) (fun hc=>by rw [HGE.1,<-HID.1,<-HPI.1] at hc;omega)⟩
       go_upto_region 6 with fail;go_quiet (fail)
       go_wp2_with fail;go_ret;exact ⟨by rw [HF.1];rfl,(HBN.1 _).bel⟩
      ·go_upto_region 6 with fail
       go_quiet (fail)
       go_wp2_with fail;go_roundw
       case rel =>
        refine ⟨k+1,by go_num,by omega,⟨fun j hj=>?_⟩,⟨HBN.1 _⟩⟩;rcases Nat.lt_succ_iff_lt_or_eq.1 hj with h | h
        ·exact hto.1 j h
        ·subst h
         rw [HGE.1,<-HID.1,<-HPI.1,<-HX.1];exact ⟨by omega,.inr (by omega)⟩
       case measure=>simp [intOf];omega
     ·have hkn:decide ((0:Int)<(k:Int))=false:=by simp;omega
      have hkn':¬ (0:Int)<(k:Int):=by omega
      go_upto_region 6 with fail;go_quiet (fail)
      go_wp2_with fail;go_roundw
      case rel =>
       refine ⟨k+1,by go_num,by omega,⟨fun j hj=>?_⟩,⟨HBN.1 _⟩⟩;rcases Nat.lt_succ_iff_lt_or_eq.1 hj with h | h
       ·exact hto.1 j h
       ·subst h
        rw [HGE.1,<-HID.1,<-HX.1];exact ⟨by omega,.inl (by omega)⟩
      case measure=>simp [intOf];omega
   ·have hlt':¬ (k:Int)<(n:Int):=by omega
    obtain rfl:k=n:=by omega
    have HT:Sh (R=true):=⟨by rw [HR.1];exact ids_yes (by rw [<-HX.1];exact h1) (by rw [<-HL.1];exact hto.1)⟩;go_wp2_with fail;go_ret;exact ⟨by rw [HT.1];rfl,hW.1.bel⟩
 ·have HF:Sh (R=false):=⟨by rw [HR.1];exact ids_next (by rw [<-HX.1];exact h1)⟩
  go_enter Tryz.func108,Tryz.ntmps108;go_wp2_with fail;go_ret;exact ⟨by rw [HF.1];rfl,zB.alloc zL _⟩
def qrs (T:TM) (k:Nat):Prop:=∀ j,j<k->kindB (T.nodes.getD j default)=true/\(j=0\/qfv T.nodes j=true)
theorem prog_yes (h1:inI (T.nodes.length:Int) 1 14=true) (h2:idsB T=true) (h3:rootB (T.nodes.getD 0 default)=true) (h4:qrs T T.nodes.length):qae T=true:=by
 rw [<-qfw];unfold progB;rw [h1,h2,h3];simp only [Bool.true_and];refine List.all_eq_true.2 fun i hi=>?_;obtain ⟨q1,q2⟩:=h4 i (by simpa using hi);rw [q1];rcases q2 with e | e
 ·simp [e]
 ·rw [e];simp
theorem qrt (hk:k<T.nodes.length) (h:¬ (kindB (T.nodes.getD k default)=true/\(k=0\/qfv T.nodes k=true))):qae T=false:=by
 rw [<-qfw];refine Bool.eq_false_iff.2 fun hc=>h ?_;unfold progB at hc;simp only [Bool.and_eq_true,List.all_eq_true,List.mem_range,Bool.or_eq_true,decide_eq_true_eq] at hc;exact hc.2 k hk
theorem prog_ids (h:idsB T=false):qae T=false:=by
 rw [<-qfw];unfold progB;rw [h];simp
theorem prog_root (h:rootB (T.nodes.getD 0 default)=false):qae T=false:=by
 rw [<-qfw];unfold progB;rw [h];simp
structure BL (w W:World) (a:Option Addr) (n cap:Nat) (nx:Int) (L b1 b2:Nat) (rs:List NR) (G:Nat->Nat) (C:Int->Nat):Prop where
 bx:BX w W a n cap nx
 vr:WCells W L [.map (some b1),.map (some b2)]
 lk:Lk W w.heap.size b1 b2 rs G C (Ab (nds rs) fun _=>false)
theorem BL.below {w W W':World} {a:Option Addr} {n cap L b1 b2:Nat} {nx:Int} {G:Nat->Nat} {C:Int->Nat} (h:BL w W a n cap nx L b1 b2 rs G C) (hb:Below W.heap.size W W'):BL w W' a n cap nx L b1 b2 rs G C:=⟨h.bx.below hb,h.vr.grow hb,h.lk.below hb⟩
theorem Lk.base {B B' b1 b2:Nat} {G:Nat->Nat} {C:Int->Nat} {A:Nat->Option Nat} (h:Lk w B b1 b2 rs G C A) (hB:B'<=B):Lk w B' b1 b2 rs G C A:=by
 obtain ⟨m1,m2,m3,inj,cells,one,lo⟩:=h;refine ⟨m1,m2,fun p hp=>?_,inj,fun i hi=>⟨(cells i hi).1,Nat.le_trans hB (cells i hi).2⟩,one,by omega⟩;obtain ⟨q1,q2⟩:=m3 p hp;exact ⟨by omega,q2⟩
theorem qgm (w:World) (v:Value) (T:TM) (lo hi:Nat) (h:TSee w v T lo hi) (hf:NFit T) (hI:NInt T.nodes):Calls Tryz.prog 62 #[v] w fun e w'=>e = .returned (.bool (qae T))/\Below w.heap.size w w':=by
 have hsee:=h;obtain ⟨a,cap,rs,rfl,hr,hm⟩:=h;have hlen:rs.length=T.nodes.length:=by rw [<-hr,qaf]
 have hl:rs.length<=1048576:=by unfold NFit at hf;omega
 have hget:∀ j (hj:j<rs.length),T.nodes.getD j default=rs[j].nd:=fun j hj=>by
  rw [<-hr,getD_in (by rw [qaf];exact hj)];simp [nds]
 have hsz:∀ x ∈ nds rs,x.name.size<=1048576/\x.pieces.length<=1048576:=fun x hx=>by
  rw [hr] at hx;have:=qep hx;unfold NFit at hf;omega
 obtain ⟨R,hR⟩:∃ R,R=qae T:=⟨_,rfl⟩;rw [<-hR];obtain ⟨n,hn⟩:∃ n,n=rs.length:=⟨_,rfl⟩;obtain ⟨nx,hnx⟩:∃ nx,nx=T.next:=⟨_,rfl⟩;rw [<-hn] at hl hlen hsee ⊢;rw [<-hnx] at hsee ⊢;have hids:=fun W (hb:Below w.heap.size w W)=>implIdsOk (hsee.below hb) hf;have HR:=zS hR;have HG:=zS hget;have HL:=zS hlen;have HN:=zS hn;have HM:=zS hm;have HE:=zS hr;have HI:=zS hI;have HS:=zS hsz;have HID:=zS hids;clear hR hget hlen hm hr hI hsz hids hsee hnx hf hn
 by_cases h1:n<1
 ·have HF:Sh (R=false):=⟨by rw [HR.1];exact qix (Bool.eq_false_iff.2 fun hc=>by have:=inI_iff.1 hc;have:=HL.1;omega)⟩
  have h1':(n:Int)<1:=by omega
  go_enter Tryz.func62,Tryz.ntmps62;go_wp2_with fail;go_ret;exact ⟨by rw [HF.1];rfl,zB.alloc zL _⟩
 have h1':¬ (n:Int)<1:=by omega
 by_cases h2:14<n
 ·have HF:Sh (R=false):=⟨by rw [HR.1];exact qix (Bool.eq_false_iff.2 fun hc=>by have:=inI_iff.1 hc;have:=HL.1;omega)⟩
  have h2':(14:Int)<(n:Int):=by omega
  go_enter Tryz.func62,Tryz.ntmps62;go_wp2_with fail;go_ret;exact ⟨by rw [HF.1];rfl,zB.alloc zL _⟩
 have h2':¬ (14:Int)<(n:Int):=by omega
 cases hid:idsB T with
 | false =>
  rw [hid] at HID;have HF:Sh (R=false):=⟨by rw [HR.1];exact prog_ids hid⟩;go_enter Tryz.func62,Tryz.ntmps62;go_wp2_with (go_at_call 108;refine (HID.1 _ (zB.alloc zL _)).mono ?_;rintro e w1 ⟨rfl,hb1⟩);go_ret;exact ⟨by rw [HF.1];rfl,(zB.alloc zL _).trans (hb1.mono (by simp))⟩
 | true =>
  rw [hid] at HID;obtain ⟨b,off,ha,lb,hc⟩:=TR.nat HM.1 (by have:=HN.1;omega);have hn0:0<rs.length:=by have:=HN.1;omega
  have hc0:=hc 0 hn0;rw [Nat.zero_mul,Nat.add_zero] at hc0;have hg0:=HG.1 0 hn0;obtain ⟨r0,hr0⟩:∃ r,r=rs[0]:=⟨_,rfl⟩;rw [<-hr0] at hc0 hg0;have hroot:=fun W=>implRootOk r0.nd.id r0.nd.parent r0.nd.name r0.nd.dir r0.nd.schema r0.nd.quota r0.nd.len r0.nd.writer r0.loc r0.nd.pieces.length r0.cap W;have hrb:rootB r0.nd=rootB (T.nodes.getD 0 default):=by rw [hg0]
  simp only [rootQ_is,hrb] at hroot;have HRT:=zS hroot;have HC0:=zS hc0;have HID2:=zS hid;rw [ha] at HM HID ⊢;clear hc hc0 hg0 hr0 hroot hid hrb
  cases hrt:rootB (T.nodes.getD 0 default) with
  | false =>
   rw [hrt] at HRT;have HF:Sh (R=false):=⟨by rw [HR.1];exact prog_root hrt⟩;clear hrt;go_enter Tryz.func62,Tryz.ntmps62
   go_wp2_with (first
    | (go_at_call 108;refine (HID.1 _ (zB.alloc zL _)).mono ?_;rintro e w1 ⟨rfl,hb1⟩;have hbb:Below w.heap.size w w1:=(zB.alloc zL _).trans (hb1.mono (by simp));obtain ⟨c0,c1,c2,c3,c4,c5,c6,c7,c8⟩:=HC0.1.below hbb lb;have x0:w1.cell? ⟨w.heap.size,0,none⟩=some (.slice (some ⟨b,off,none⟩) n cap):=(hb1.cell (by simp)).trans (by simp);have HBB:=zS hbb)
    | (go_at_call 109;refine (HRT.1 _).mono ?_;rintro e w2 ⟨rfl,hb2⟩))
   go_ret;exact ⟨by rw [HF.1];rfl,HBB.1.trans (hb2.mono HBB.1.size)⟩
  | true =>
   rw [hrt] at HRT;have HRT2:=zS hrt;clear hrt;go_enter Tryz.func62,Tryz.ntmps62
   go_wp2_with (first
    | (go_at_call 108;refine (HID.1 _ (zB.alloc zL _)).mono ?_;rintro e w1 ⟨rfl,hb1⟩;have hbb:Below w.heap.size w w1:=(zB.alloc zL _).trans (hb1.mono (by simp));obtain ⟨c0,c1,c2,c3,c4,c5,c6,c7,c8⟩:=HC0.1.below hbb lb;have x0:w1.cell? ⟨w.heap.size,0,none⟩=some (.slice (some ⟨b,off,none⟩) n cap):=(hb1.cell (by simp)).trans (by simp);have HBX:Sh (BX w w1 (some ⟨b,off,none⟩) n cap nx):=⟨(BX.new w (some ⟨b,off,none⟩) n cap nx 37).below hb1⟩)
    | (go_at_call 109;refine (HRT.1 _).mono ?_;rintro e w2 ⟨rfl,hb2⟩;replace HBX:=zS (HBX.1.below hb2);have y0:=(HBX.1.box.2 0 _ rfl).1))
   have hlk:Calls Tryz.prog 110 #[.slice (some ⟨b,off,none⟩) n cap] w2 fun e w'=>∃ b1 b2 G C,e = .returned (.agg #[.map (some b1),.map (some b2)])/\Lk w' w2.heap.size b1 b2 rs G C (Ab (nds rs) fun _=>false)/\Below w2.heap.size w2 w':=by
    rw [HN.1];exact qdt (HM.1.below HBX.1.bel) (by rw [<-HN.1];exact hl) (by rw [HE.1];exact HI.1) (fun x hx=>by have:=(HS.1 x hx).1;unfold maxLen;omega)
   clear c0 c1 c2 c3 c4 c5 c6 c7 c8 x0 hb1 hb2 hbb HC0;refine hlk.mono ?_;rintro e w3 ⟨b1,b2,G,C,rfl,hLk,hb3⟩;have hbx3:=HBX.1.below hb3;have HB3:=zS hbx3;have HL3:=zS (hLk.base HBX.1.bel.size);clear hlk y0 hb3 hbx3 hLk HBX;have y0:=(HB3.1.box.2 0 _ rfl).1;have ly:=HB3.1.box.1;go_upto_region 4 with fail;refine qaa (fun W=>BL w W (some ⟨b,off,none⟩) n cap nx w3.heap.size b1 b2 rs G C) ?_ ?_
   ·have hb:Below w3.heap.size w3 (w3.alloc (.cells #[.map (some b1),.map (some b2)] 169)):=zB.alloc zL _
    exact ⟨HB3.1.below hb,qac w3 #[.map (some b1),.map (some b2)] 169,HL3.1.below hb⟩
   intro W hW;have HW:=zS hW;clear hW y0;have y0:=(HW.1.bx.box.2 0 _ rfl).1;obtain ⟨L,hL⟩:∃ L,L=w3.heap.size:=⟨_,rfl⟩;rw [<-hL] at HW ⊢;have HASC:Sh (Asc (nds rs)):=⟨by rw [HE.1];exact qmw HID2.1 HRT2.1 (by rw [<-HL.1];omega)⟩;clear HB3 HL3 hL ly HID HRT;go_wp2_with fail;go_loopw [35] (fun i wr=>∃ (k:Nat),i = .int .i64 k/\k<=n/\Sh (qrs T k)/\Sh (BL w wr (some ⟨b,off,none⟩) n cap nx L b1 b2 rs G C)) (fun i _=>n - (intOf i).toNat)
   case atStart=>exact ⟨0,rfl,Nat.zero_le _,⟨fun _ h=>absurd h (Nat.not_lt_zero _)⟩,HW⟩
   case round =>
    clear HW y0;obtain ⟨k,rfl,hk,hto,hW⟩:=hrel;obtain ⟨v0,v1⟩:=bwb2 hW.1.vr;have lv:=hW.1.vr.1
    by_cases hlt:k<n
    ·have hkr:k<rs.length:=by rw [<-HN.1];exact hlt
     obtain ⟨b',off',hab,_,hc⟩:=TR.nat HM.1 (by omega);have e1:b'=b/\off'=off:=by simpa using hab.symm
     obtain ⟨rfl,rfl⟩:=e1;have hnk:=(hc k hkr).below hW.1.bx.bel lb;have hge:=HG.1 k hkr;have hmem:rs[k].nd ∈ nds rs:=List.mem_map.2 ⟨_,List.getElem_mem hkr,rfl⟩
     have hno:∀ W',Below w.heap.size w W'->Calls Tryz.prog 111 #[nv rs[k]] W' fun e w'=>e = .returned (.bool (kindB (T.nodes.getD k default)))/\Below W'.heap.size W' w':=fun W' hb=>by
      rw [hge];exact implNodeOk rs[k] W' ((HM.1.2 _ (List.getElem_mem hkr)).below hb) (HS.1 _ hmem).2
     have hpo:∀ W',BL w W' (some ⟨b',off',none⟩) n cap nx L b1 b2 rs G C->Calls Tryz.prog 112 #[.agg #[.map (some b1),.map (some b2)],nv rs[k]] W' fun e w'=>e = .returned (.bool (qfv T.nodes k))/\Below W'.heap.size W' w':=fun W' hb=>by
      have:=placeOk_any hb.lk HASC.1 (by rw [HE.1];exact HI.1) (fun x hx=>(HS.1 x hx).1) hkr;rw [HE.1] at this;exact this
     obtain ⟨r,hr⟩:∃ r,r=rs[k]:=⟨_,rfl⟩;rw [<-hr] at hnk hno hpo;obtain ⟨⟨id,parent,name,dir,schema,quota,len,pieces,writer⟩,loc,cp⟩:=r;dsimp only [nv] at hno hpo;obtain ⟨c0,c1,c2,c3,c4,c5,c6,c7,c8⟩:=hnk;dsimp only at c0 c1 c2 c3 c4 c5 c6 c7 c8;generalize pieces.length=pn at *;have HNO:=zS hno;have HPO:=zS hpo;have lb':b'<wr.heap.size:=Nat.lt_of_lt_of_le lb hW.1.bx.bel.size;have k0:(0:Int)<=(k:Int):=by omega
     have k1:(k:Int)<(n:Int):=by omega
     have HKL:Sh (k<T.nodes.length):=⟨by rw [<-HL.1];exact hlt⟩;clear hc hr hge hmem hno hpo hab;have HBA:Sh (Below wr.heap.size wr (wr.alloc (.cells #[.int .i64 id,.int .i64 parent,.string name,.bool dir,.int .i64 schema,.int .i64 quota,.int .i64 len,.slice loc pn cp,.int .i64 writer] 90))):=⟨zB.alloc zL _⟩;have HNA:Sh (WCells (wr.alloc (.cells #[.int .i64 id,.int .i64 parent,.string name,.bool dir,.int .i64 schema,.int .i64 quota,.int .i64 len,.slice loc pn cp,.int .i64 writer] 90)) wr.heap.size [.int .i64 id,.int .i64 parent,.string name,.bool dir,.int .i64 schema,.int .i64 quota,.int .i64 len,.slice loc pn cp,.int .i64 writer]):=⟨qac wr #[.int .i64 id,.int .i64 parent,.string name,.bool dir,.int .i64 schema,.int .i64 quota,.int .i64 len,.slice loc pn cp,.int .i64 writer] 90⟩
     cases hkd:kindB (T.nodes.getD k default) with
     | false =>
      rw [hkd] at HNO;have HF:Sh (R=false):=⟨by rw [HR.1];exact qrt HKL.1 (fun hc=>by rw [hkd] at hc;cases hc.1)⟩;clear hkd;go_wp2_with (go_at_call 111;refine (HNO.1 _ (hW.1.bx.bel.trans ((zB.alloc zL _).mono hW.1.bx.bel.size))).mono ?_;rintro e w4 ⟨rfl,hb4⟩;have hW4:=(hW.1.below HBA.1).below hb4;have HW4:=zS hW4;have u0:=(hW4.vr.2 0 _ rfl).1;have u1:=(hW4.vr.2 1 _ rfl).1;have hnd:=HNA.1.grow hb4;have d0:=(hnd.2 0 _ rfl).1;have d1:=(hnd.2 1 _ rfl).1;have d2:=(hnd.2 2 _ rfl).1;have d3:=(hnd.2 3 _ rfl).1;have d4:=(hnd.2 4 _ rfl).1;have d5:=(hnd.2 5 _ rfl).1;have d6:=(hnd.2 6 _ rfl).1;have d7:=(hnd.2 7 _ rfl).1;have d8:=(hnd.2 8 _ rfl).1;clear hW4 hnd hb4);go_ret;exact ⟨by rw [HF.1];rfl,HW4.1.bx.bel⟩
     | true =>
      rw [hkd] at HNO;have HKD:=zS hkd;clear hkd
      by_cases hk0:0<k
      ·have hkp:(0:Int)<(k:Int):=by omega
       cases hpl:qfv T.nodes k with
       | false =>
        rw [hpl] at HPO;have HF:Sh (R=false):=⟨by rw [HR.1];exact qrt HKL.1 (fun hc=>by rw [hpl] at hc;rcases hc.2 with h | h;omega;cases h)⟩;clear hpl;go_wp2_with (first | (go_at_call 111;refine (HNO.1 _ (hW.1.bx.bel.trans ((zB.alloc zL _).mono hW.1.bx.bel.size))).mono ?_;rintro e w4 ⟨rfl,hb4⟩;have hW4:=(hW.1.below HBA.1).below hb4;have HW4:=zS hW4;have u0:=(hW4.vr.2 0 _ rfl).1;have u1:=(hW4.vr.2 1 _ rfl).1;have hnd:=HNA.1.grow hb4;have d0:=(hnd.2 0 _ rfl).1;have d1:=(hnd.2 1 _ rfl).1;have d2:=(hnd.2 2 _ rfl).1;have d3:=(hnd.2 3 _ rfl).1;have d4:=(hnd.2 4 _ rfl).1;have d5:=(hnd.2 5 _ rfl).1;have d6:=(hnd.2 6 _ rfl).1;have d7:=(hnd.2 7 _ rfl).1;have d8:=(hnd.2 8 _ rfl).1;clear hW4 hnd hb4) | (go_at_call 112;refine (HPO.1 _ HW4.1).mono ?_;rintro e w5 ⟨rfl,hb5⟩));go_ret;exact ⟨by rw [HF.1];rfl,(HW4.1.below hb5).bx.bel⟩
       | true =>
        rw [hpl] at HPO;have HPL:=zS hpl;clear hpl;go_wp2_with (first | (go_at_call 111;refine (HNO.1 _ (hW.1.bx.bel.trans ((zB.alloc zL _).mono hW.1.bx.bel.size))).mono ?_;rintro e w4 ⟨rfl,hb4⟩;have hW4:=(hW.1.below HBA.1).below hb4;have HW4:=zS hW4;have u0:=(hW4.vr.2 0 _ rfl).1;have u1:=(hW4.vr.2 1 _ rfl).1;have hnd:=HNA.1.grow hb4;have d0:=(hnd.2 0 _ rfl).1;have d1:=(hnd.2 1 _ rfl).1;have d2:=(hnd.2 2 _ rfl).1;have d3:=(hnd.2 3 _ rfl).1;have d4:=(hnd.2 4 _ rfl).1;have d5:=(hnd.2 5 _ rfl).1;have d6:=(hnd.2 6 _ rfl).1;have d7:=(hnd.2 7 _ rfl).1;have d8:=(hnd.2 8 _ rfl).1;clear hW4 hnd hb4) | (go_at_call 112;refine (HPO.1 _ HW4.1).mono ?_;rintro e w5 ⟨rfl,hb5⟩));go_roundw
        case rel =>
         refine ⟨k+1,by go_num,by omega,⟨fun j hj=>?_⟩,⟨HW4.1.below hb5⟩⟩;rcases Nat.lt_succ_iff_lt_or_eq.1 hj with h | h
         ·exact hto.1 j h
         ·subst h
          exact ⟨HKD.1,.inr HPL.1⟩
        case measure=>simp [intOf];omega
      ·have hkn:decide ((0:Int)<(k:Int))=false:=by simp;omega
       have hkn':¬ (0:Int)<(k:Int):=by omega
       go_wp2_with (go_at_call 111;refine (HNO.1 _ (hW.1.bx.bel.trans ((zB.alloc zL _).mono hW.1.bx.bel.size))).mono ?_;rintro e w4 ⟨rfl,hb4⟩;have hW4:=(hW.1.below HBA.1).below hb4;have HW4:=zS hW4;have u0:=(hW4.vr.2 0 _ rfl).1;have u1:=(hW4.vr.2 1 _ rfl).1;have hnd:=HNA.1.grow hb4;have d0:=(hnd.2 0 _ rfl).1;have d1:=(hnd.2 1 _ rfl).1;have d2:=(hnd.2 2 _ rfl).1;have d3:=(hnd.2 3 _ rfl).1;have d4:=(hnd.2 4 _ rfl).1;have d5:=(hnd.2 5 _ rfl).1;have d6:=(hnd.2 6 _ rfl).1;have d7:=(hnd.2 7 _ rfl).1;have d8:=(hnd.2 8 _ rfl).1;clear hW4 hnd hb4);go_roundw
       case rel =>
        refine ⟨k+1,by go_num,by omega,⟨fun j hj=>?_⟩,HW4⟩;rcases Nat.lt_succ_iff_lt_or_eq.1 hj with h | h
        ·exact hto.1 j h
        ·subst h
         exact ⟨HKD.1,.inl (by omega)⟩
       case measure=>simp [intOf];omega
    ·have hlt':¬ (k:Int)<(n:Int):=by omega
     obtain rfl:k=n:=by omega
     have HT:Sh (R=true):=⟨by rw [HR.1];exact prog_yes (inI_iff.2 (by have:=HL.1;omega)) HID2.1 HRT2.1 (by rw [<-HL.1];exact hto.1)⟩;go_wp2_with fail;go_ret;exact ⟨by rw [HT.1];rfl,hW.1.bx.bel⟩
theorem field_id (p q:Option Nat) (W:World):(Instr.field 169 (.agg #[.map p,.map q]) 0).run Tryz.prog W = .ok (.map p) W:=by kernel_rfl
def AtPost (T:TM) (id:Int) (w:World) (e:Ending) (w':World):Prop:=∃ o,e = .returned (ptrV o)/\Below w.heap.size w w'/\((qae T=false/\o=none)\/(qae T=true/\∃ G,o=(fid T.nodes id).map G/\Nd w' T.nodes G))
theorem qmt (hf:NFit T):∀ x ∈ T.nodes,x.name.size<=1048576/\x.pieces.length<=1048576:=fun x hx=>by
 have:=qep hx;unfold NFit at hf;omega
theorem qiq (w:World) (v:Value) (T:TM) (lo hi:Nat) (id:Int) (h:TSee w v T lo hi) (hf:NFit T) (hI:NInt T.nodes) (hid:(Lit.int .i64 id).wf=true):Calls Tryz.prog 158 #[v,.int .i64 id] w fun e w'=>AtPost T id w e w':=by
 have hsee:=h;obtain ⟨a,cap,rs,rfl,hr,hm⟩:=h;have hl:rs.length<=1048576:=by unfold NFit at hf;rw [<-hr,qaf] at hf;omega
 obtain ⟨n,hn⟩:∃ n,n=rs.length:=⟨_,rfl⟩;obtain ⟨nx,hnx⟩:∃ nx,nx=T.next:=⟨_,rfl⟩;rw [<-hn,<-hnx] at hsee ⊢;have hok:=fun W (hb:Below w.heap.size w W)=>qgm W _ T lo hi (hsee.below hb) hf hI;have hlk:=fun W (hb:Below w.heap.size w W)=>qdt (cap:=cap) (hm.below hb) hl (by rw [hr];exact hI) (fun x hx=>by rw [hr] at hx;have:=(qmt hf x hx).1;unfold maxLen;omega);rw [<-hn] at hlk;have HOK:=zS hok;have HLK:=zS hlk;have HR:=zS hr;clear hok hlk hr hm hsee hn hnx
 cases ht:qae T with
 | false =>
  rw [ht] at HOK;have HT:=zS ht;clear ht;go_enter Tryz.func158,Tryz.ntmps158;go_wp2_with (go_at_call 62;refine (HOK.1 _ (zB.alloc zL _)).mono ?_;rintro e w1 ⟨rfl,hb1⟩);go_ret;exact ⟨none,rfl,(zB.alloc zL _).trans (hb1.mono (by simp)),.inl ⟨HT.1,rfl⟩⟩
 | true =>
  rw [ht] at HOK;have HT:=zS ht;clear ht;go_enter Tryz.func158,Tryz.ntmps158;go_wp2_with (go_at_call 62;refine (HOK.1 _ (zB.alloc zL _)).mono ?_;rintro e w1 ⟨rfl,hb1⟩;have hbx:=(BX.new w a n cap nx 37).below hb1;have HBX:=zS hbx;have x0:=(hbx.box.2 0 _ rfl).1;clear hb1 hbx);refine (HLK.1 _ HBX.1.bel).mono ?_;rintro e w2 ⟨b1,b2,G,C,rfl,hL,hb2⟩;obtain ⟨D1,o1,t1⟩:=hL.m1;have k1:=qdu keyI Tryz.underlying166 qhn o1 (qcs hid) (t1 id) 0;rw [World.drewN_zero] at k1;have HL:=zS hL;have HB:=zS (HBX.1.bel.trans (hb2.mono HBX.1.bel.size));clear hL hb2 o1 t1 x0;have k0:=field_id (some b1) (some b2);go_wp2_with fail;go_ret;refine ⟨(fid (nds rs) id).map G,rfl,HB.1,.inr ⟨HT.1,G,by rw [HR.1],?_⟩⟩;rw [<-HR.1];exact HL.1.nd
theorem implSchemaAt (w:World) (v:Value) (T:TM) (lo hi:Nat) (id:Int) (h:TSee w v T lo hi) (hf:NFit T) (hI:NInt T.nodes) (hid:(Lit.int .i64 id).wf=true):Calls Tryz.prog 248 #[v,.int .i64 id] w fun e w'=>e = .returned (.int .i64 (qbo T id))/\Below w.heap.size w w':=by
 have hsee:=h;obtain ⟨a,cap,rs,rfl,hr,hm⟩:=h;obtain ⟨n,hn⟩:∃ n,n=rs.length:=⟨_,rfl⟩;obtain ⟨nx,hnx⟩:∃ nx,nx=T.next:=⟨_,rfl⟩;rw [<-hn,<-hnx] at hsee ⊢;have hat:=fun W (hb:Below w.heap.size w W)=>qiq W _ T lo hi id (hsee.below hb) hf hI hid;have HAT:=zS hat;obtain ⟨R,hR⟩:∃ R,R=qbo T id:=⟨_,rfl⟩;rw [<-hR];have HR:=zS hR;clear hat hr hm hsee hn hnx hR hf hI hid;go_enter Tryz.func248,Tryz.ntmps248;go_wp2_with fail;refine (HAT.1 _ (zB.alloc zL _)).mono ?_;rintro e w1 ⟨o,rfl,hb1,hcase⟩;have HB:=zS (((Below.refl w.heap.size w).alloc zL (.cells #[.slice a n cap,.int .i64 nx] 37)).trans (hb1.mono (by simp)));clear hb1 HAT;rcases hcase with ⟨ht,rfl⟩ | ⟨ht,G,rfl,hnd⟩
 ·have HE:Sh (R=0):=⟨by rw [HR.1];unfold qbo;rw [if_neg (by rw [ht];decide)]⟩
  rw [qcg];clear ht;go_wp2_with fail;go_loopg [5] 0 (fun _ p wr=>p = .pointer none/\wr=w1)
  case atStart=>exact ⟨rfl,rfl⟩
  case round =>
   obtain ⟨rfl,rfl⟩:=hrel;go_wp2_with fail;go_ret;exact ⟨by rw [HE.1];rfl,HB.1⟩
 ·have HT:=zS (qee ht)
  have HND:=zS hnd;have HE:Sh (R=qdb T.nodes 15 id):=⟨by rw [HR.1];unfold qbo;rw [if_pos ht]⟩;clear hnd ht;obtain ⟨N,hN⟩:∃ N,∀ j d,Ups T.nodes j d->j<T.nodes.length->d+1<=N:=⟨5,fun j d hu hj=>by obtain ⟨d',hd,hu'⟩:=HT.1.2 j hj;rw [hu.det hu'];omega⟩;have HNN:=zS hN;clear hN;go_wp2_with fail;go_loopg [5] N (fun m p wr=>wr=w1/\(Sh (p = .pointer none/\R=0)\/Sh (∃ (j d r:Nat),p = .pointer (some ⟨G j,0,none⟩)/\d+1<=m/\j<T.nodes.length/\Ups T.nodes j d/\qdb T.nodes (d+2+r) (T.nodes.getD j default).id=R)))
  case atStart =>
   refine ⟨rfl,?_⟩
   cases hf:fid T.nodes id with
   | none=>exact .inl ⟨⟨rfl,by rw [HE.1];exact qge hf⟩⟩
   | some j =>
    obtain ⟨hj,ej⟩:=qck hf;obtain ⟨d,hd,hu⟩:=HT.1.2 j hj;refine .inr ⟨⟨j,d,13 - d,rfl,HNN.1 j d hu hj,hj,hu,?_⟩⟩;rw [HE.1,getD_in hj,ej,show d+2+(13 - d)=15 by omega]
  case round =>
   obtain ⟨rfl,hrel⟩:=hrel;rcases hrel with ⟨rfl,hR0⟩ | ⟨j,d,r,rfl,hdm,hj,hu,h1⟩
   ·have HE0:=zS hR0
    clear hR0;go_wp2_with fail;go_ret;exact ⟨by rw [HE0.1];rfl,HB.1⟩
   ·have c4:=(HND.1.cells j hj).2.2.2.2.1
    have hf:=HT.1.1.fid hj;have c9:=HND.1.above j hj hf;have hge:=getD_in hj;obtain ⟨x,hx⟩:∃ x,x=T.nodes[j]:=⟨_,rfl⟩;rw [<-hx] at c4 c9 hge hf;rw [hge,show d+2+r=(d+1+r)+1 by omega,qjf (i:=j) hf,hge] at h1;have HH:=zS (And.intro h1 (And.intro hu hge));obtain ⟨o,ho⟩:∃ o,o=fid T.nodes x.parent:=⟨_,rfl⟩;rw [<-ho] at c9;have HO:=zS ho;clear ho h1 hu hge hf hx
    by_cases hs:x.schema=0
    ·cases o with
     | none =>
      simp only [Option.map_none,qcg] at c9;go_wp2_with fail;go_roundg (gk - 1)
      case measure=>omega
      case rel =>
       refine ⟨rfl,.inl ⟨⟨rfl,?_⟩⟩⟩;obtain ⟨h1,hu,hge⟩:=HH.1;rw [if_neg (by simp [hs])] at h1;rw [<-h1,show d+1+r=(d+r)+1 by omega];exact qge HO.1.symm
     | some k =>
      simp only [Option.map_some,qcf] at c9;go_wp2_with fail;go_roundg (gk - 1)
      case measure=>omega
      case rel =>
       refine ⟨rfl,.inr ⟨?_⟩⟩;obtain ⟨h1,hu,hge⟩:=HH.1;rw [if_neg (by simp [hs])] at h1
       cases hu with
       | root =>
        have e0:=HT.1.1.2.2.2;have h4:=HO.1;rw [hge] at e0;rw [e0,HT.1.1.zero] at h4;cases h4
       | @step _ k' d' _ _ hk hu' =>
        rw [hge,<-HO.1] at hk;cases hk;obtain ⟨hkl,ek⟩:=qck HO.1.symm;refine ⟨k,d',r,rfl,by omega,hkl,hu',?_⟩;rw [<-ek,<-getD_in hkl] at h1;rw [<-h1,show d'+2+r=d'+1+1+r by omega]
    ·have hs':(x.schema != 0)=true:=by simp [hs]
     go_wp2_with fail;go_ret;refine ⟨?_,HB.1⟩;obtain ⟨h1,hu,hge⟩:=HH.1;rw [if_pos hs] at h1;rw [<-h1]
     rfl
end
section
attribute [local irreducible] nodeOk qae atI joinB nameB
end
section
attribute [local irreducible] nodeOk qae atI findX qbo usedX roomX
end
section
attribute [local irreducible] nodeOk qae atI qap markK
end
section
open Go.Maps Go.Sort BigFrame
theorem implClone9 (s:ByteArray) (w:World) (hs:s.size<=281474976710656):Calls Tryz.prog 103 #[.string s] w fun e w'=>e = .returned (.string s)/\Below w.heap.size w w':=by
 have HC:=zS (fun W=>Tryz.stringslite_Clone s W hs);go_enter Tryz.func103,Tryz.ntmps103;go_wp2_with fail;refine (HC.1 _).mono ?_;rintro e w1 ⟨rfl,hb⟩;go_wp2_with fail;go_ret;exact ⟨rfl,hb⟩
end
theorem specDoAct (a:Option Addr) (fs:List FM) (x:AM) (cap:Nat) (w:World) (hr:FRow w a fs) (hf:FFit fs) (hl:fs.length<=1048576) (hn:x.name.size<=9223372036854775807) (ht:x.text.size<=1048576) (ho:x.dst.size<=9223372036854775807) :
  Calls Tryz.prog 54 #[.agg #[.slice a fs.length cap],av x] w fun e w'=>qcr ((doA fs x).getD []) (.bool (doA fs x).isSome) w e w':=by
 by_cases k1:x.kind=1
 ·exact specDoAct_add a fs x cap w hr hf hl hn ht ho k1
 ·by_cases k3:x.kind=3
  ·exact specDoAct_move a fs x cap w hr hf hl hn ht ho k3
  ·exact specDoAct_else a fs x cap w hr hf hl hn ht ho k1 k3
section
variable {p:ByteArray} {e:EM} {g:Int} {ns:List NM} {x:NM} {k:Nat} {T:TM}
theorem qjq {α:Type} (ns:List NM) (k i:Nat) (x:NM) (f:NM->α) (h:f x=f (ns.getD k default)):f ((ns.set k x).getD i default)=f (ns.getD i default):=by
 by_cases e:i=k
 ·subst e
  by_cases hi:i<ns.length
  ·have:(ns.set i x).getD i default=x:=by simp [List.getD_eq_getElem?_getD,hi]
   rw [this,h]
  ·rw [List.set_eq_of_length_le (by omega)]
 ·have:(ns.set k x)[i]?=ns[i]?:=by rw [List.getElem?_set];simp [Ne.symm e]
  rw [List.getD_eq_getElem?_getD,List.getD_eq_getElem?_getD,this]
theorem qpy (ns:List NM) (k:Nat) (x:NM) (h:x.id=(ns.getD k default).id) (id:Int):(ns.set k x).findIdx? (fun n=>n.id==id)=ns.findIdx? (fun n=>n.id==id):=by
 have hm:(ns.set k x).map NM.id=ns.map NM.id:=by
  apply List.ext_getElem?;intro i;rw [List.getElem?_map,List.getElem?_map,List.getElem?_set];split
  ·rename_i e
   subst e
   by_cases hk:k<ns.length
   ·simp [hk,h,List.getD_eq_getElem?_getD]
   ·simp [hk]
  ·rfl
 have e1:∀ l:List NM,l.findIdx? (fun n=>n.id==id)=(l.map NM.id).findIdx? (· == id):=fun l=>by rw [List.findIdx?_map];rfl
 rw [e1,e1,hm]
theorem set_at (ns:List NM) (k:Nat) (x:NM) (h:x.id=(ns.getD k default).id) (id:Int):atI (ns.set k x) id=atI ns id:=by
 unfold atI;rw [qpy ns k x h id]
theorem set_climbs (ns:List NM) (k:Nat) (x:NM) (h:x.id=(ns.getD k default).id) (hp:x.parent=(ns.getD k default).parent) (f:Nat) (id:Int):climbs (ns.set k x) f id=climbs ns f id:=by
 induction f generalizing id with
 | zero=>rfl
 | succ f ih =>
  unfold climbs;rw [qpy ns k x h id]
  cases ns.findIdx? (fun n=>n.id==id) with
  | none=>rfl
  | some j =>
   dsimp only;rw [qjq ns k j x NM.parent hp,ih]
theorem qjr (h:qae T=true) (h1:x.id=(ndAt T k).id) (h2:x.parent=(ndAt T k).parent) (h3:x.name=(ndAt T k).name) (h4:x.dir=(ndAt T k).dir)
  (h5:(if x.dir then dirOk x else fileOk x)=true) (h6:k=0->x.schema ≠ 0):qae (setN T k x)=true:=by
 unfold ndAt at h1 h2 h3 h4;unfold qae at h ⊢;simp only [Bool.and_eq_true,decide_eq_true_eq,List.all_eq_true,List.mem_range] at h ⊢;obtain ⟨⟨⟨a1,a2⟩,a3⟩,a4⟩:=h;have hl:(setN T k x).nodes.length=T.nodes.length:=by simp [setN]
 rw [hl];refine ⟨⟨⟨a1,a2⟩,a3⟩,fun i hi=>?_⟩;have hn:=a4 i hi;unfold nodeOk at hn ⊢
 show (decide (((T.nodes.set k x).getD i default).id<T.next)&&(if i=0 then qbu ((T.nodes.set k x).getD i default) else decide (((T.nodes.set k x).getD (i - 1) default).id<((T.nodes.set k x).getD i default).id)) &&
  (if ((T.nodes.set k x).getD i default).dir then dirOk ((T.nodes.set k x).getD i default) else fileOk ((T.nodes.set k x).getD i default)) &&
  (decide (i=0)||(nameB ((T.nodes.set k x).getD i default).name&&decide (0<=atI (T.nodes.set k x) ((T.nodes.set k x).getD i default).parent)&&((T.nodes.set k x).getD (atI (T.nodes.set k x) ((T.nodes.set k x).getD i default).parent).toNat default).dir &&
   (List.range i).all (fun j=>! ((((T.nodes.set k x).getD j default).parent==((T.nodes.set k x).getD i default).parent)&&decide (((T.nodes.set k x).getD j default).name=((T.nodes.set k x).getD i default).name)))&&climbs (T.nodes.set k x) 4 ((T.nodes.set k x).getD i default).id)))=true
 have g1:∀ j,((T.nodes.set k x).getD j default).id=(T.nodes.getD j default).id:=fun j=>qjq T.nodes k j x NM.id h1;have g2:∀ j,((T.nodes.set k x).getD j default).parent=(T.nodes.getD j default).parent:=fun j=>qjq T.nodes k j x NM.parent h2;have g3:∀ j,((T.nodes.set k x).getD j default).name=(T.nodes.getD j default).name:=fun j=>qjq T.nodes k j x NM.name h3;have g4:∀ j,((T.nodes.set k x).getD j default).dir=(T.nodes.getD j default).dir:=fun j=>qjq T.nodes k j x NM.dir h4;simp only [g1,g2,g3,g4,set_at T.nodes k x h1,set_climbs T.nodes k x h1 h2]
 by_cases e:i=k
 ·have hx:(T.nodes.set k x).getD i default=x:=by rw [e];simp [List.getD_eq_getElem?_getD,e ▸ hi]
  rw [hx];simp only [Bool.and_eq_true] at hn ⊢;obtain ⟨⟨⟨b1,b2⟩,b3⟩,b4⟩:=hn;refine ⟨⟨⟨b1,?_⟩,?_⟩,b4⟩
  ·by_cases e0:i=0
   ·rw [if_pos e0] at b2 ⊢
    unfold qbu at b2 ⊢;simp only [Bool.and_eq_true] at b2 ⊢;rw [e] at b2;rw [h1,h2,h3,h4];exact ⟨b2.1,by simpa using h6 (e ▸ e0)⟩
   ·rw [if_neg e0] at b2 ⊢
    exact b2
  ·rw [e,<-h4]
   exact h5
 ·have hx:(T.nodes.set k x).getD i default=T.nodes.getD i default:=by
   rw [List.getD_eq_getElem?_getD,List.getD_eq_getElem?_getD,List.getElem?_set];simp [Ne.symm e]
  rw [hx];exact hn
theorem ok_at (h:qae T=true) (hk:k<T.nodes.length):(if (ndAt T k).dir then dirOk (ndAt T k) else fileOk (ndAt T k))=true/\(k=0->qbu (ndAt T k)=true):=by
 unfold qae at h;simp only [Bool.and_eq_true,decide_eq_true_eq,List.all_eq_true,List.mem_range] at h;have hn:=h.2 k hk;unfold nodeOk at hn;simp only [Bool.and_eq_true] at hn;refine ⟨hn.1.2,fun e=>?_⟩;have:=hn.1.1.2;rw [if_pos e] at this;exact this
theorem qrg (h:qae T=true) (hk:k<T.nodes.length) (he:(e.kind=5/\1<=e.num/\e.num<=3)\/(e.kind=6/\0<=e.num/\e.num<=1000)):qae (setX T e k).1=true:=by
 obtain ⟨o1,o2⟩:=ok_at h hk;unfold setX;split
 ·exact h
 rename_i hd;have hd':(ndAt T k).dir=true:=by simpa using hd
 rw [if_pos hd'] at o1;unfold dirOk at o1;simp only [Bool.and_eq_true,inI_iff] at o1;obtain ⟨⟨⟨⟨b1,b2⟩,b3⟩,b4⟩,b5⟩:=o1;split
 ·rename_i e5
  have hn:1<=e.num/\e.num<=3:=by rcases he with ⟨_,q⟩ | ⟨q,_⟩ <;> omega
  refine qjr h rfl rfl rfl rfl ?_ (fun _=>by show e.num ≠ 0;omega);rw [if_pos hd'];unfold dirOk;simp only [Bool.and_eq_true,inI_iff];exact ⟨⟨⟨⟨⟨by omega,by omega⟩,b2⟩,b3⟩,b4⟩,b5⟩
 rename_i e5;split
 ·exact h
 ·have hn:0<=e.num/\e.num<=1000:=by rcases he with ⟨q,_⟩ | ⟨_,q⟩ <;> omega
  refine qjr h rfl rfl rfl rfl ?_ (fun e0=>?_)
  ·rw [if_pos hd']
   unfold dirOk;simp only [Bool.and_eq_true,inI_iff];exact ⟨⟨⟨⟨b1,hn⟩,b3⟩,b4⟩,b5⟩
  ·have:=o2 e0
   unfold qbu at this;simp only [Bool.and_eq_true] at this
   simpa using this.2
theorem newP_sum (g:Int) (ls:List Int):sumP (newP g ls)=ls.sum:=by
 induction ls generalizing g with
 | nil=>rfl
 | cons l ls ih=>simp [newP,sumP,ih]
theorem newP_ok {s g:Int} {ls:List Int} (hl:∀ l ∈ ls,1<=l/\l<=(qbl s:Nat)) (h1:1<=g) (h2:g+ls.length<=100001):∀ p ∈ newP g ls,qba s p=true:=by
 induction ls generalizing g with
 | nil=>simp [newP]
 | cons l ls ih =>
  intro p hp;simp only [List.length_cons] at h2
  push_cast at h2
  rcases List.mem_cons.1 hp with rfl | hp
  ·unfold qba
   rw [Bool.and_eq_true,inI_iff,inI_iff];exact ⟨⟨h1,by dsimp only;omega⟩,hl l (by simp)⟩
  ·exact ih (fun l' h'=>hl l' (by simp [h'])) (by omega) (by omega) p hp
theorem spanL_sum {S n:Nat} (hS:0<S) (h1:1<=n):(spanL S n).sum=(n:Int)/\∀ l ∈ spanL S n,1<=l/\l<=(S:Int):=by
 have hq:(n - 1) / S*S<=n - 1:=Nat.div_mul_le_self _ _;have hr:n - 1<(n - 1) / S*S+S:=by have:=Nat.div_add_mod (n - 1) S;have:=Nat.mod_lt (n - 1) hS;have:=Nat.mul_comm S ((n - 1) / S);omega
 constructor
 ·unfold spanL
  rw [List.sum_append,List.sum_replicate_int];simp only [List.sum_cons,List.sum_nil];have:(((n - 1) / S:Nat):Int)*(S:Int)=(((n - 1) / S*S:Nat):Int):=by push_cast;rfl
  omega
 ·intro l hl
  unfold spanL at hl;rcases List.mem_append.1 hl with hl | hl
  ·rw [List.eq_of_mem_replicate hl];omega
  ·rw [List.mem_singleton.1 hl];omega
theorem writeX_ok (h:qae T=true) (hk:k<T.nodes.length) (h7:e.kind ≠ 9->e.kind ≠ 8->1<=e.num/\e.num<=200) (h9:e.kind=9->0<=e.who/\e.who<=9) (g1:1<=g) (g2:g<=99000):qae (qcd T e k g).1=true:=by
 obtain ⟨o1,-⟩:=ok_at h hk;unfold qcd;split
 ·exact h
 rename_i hd;rw [if_neg hd] at o1;unfold fileOk at o1;simp only [Bool.and_eq_true,inI_iff,decide_eq_true_eq,List.all_eq_true,beq_iff_eq] at o1;obtain ⟨⟨⟨⟨⟨⟨b1,b2⟩,b3⟩,b4⟩,b5⟩,b6⟩,b7⟩:=o1;split
 ·exact h
 split
 ·rename_i e9
  refine qjr h rfl rfl rfl rfl ?_ (fun _=>by show (ndAt T k).schema ≠ 0;omega);rw [if_neg hd];unfold fileOk;simp only [Bool.and_eq_true,inI_iff,decide_eq_true_eq,List.all_eq_true,beq_iff_eq];exact ⟨⟨⟨⟨⟨⟨b1,b2⟩,b3⟩,h9 e9⟩,b5⟩,b6⟩,b7⟩
 rename_i e9;split
 ·refine qjr h rfl rfl rfl rfl ?_ (fun _=>by show (ndAt T k).schema ≠ 0;omega)
  rw [if_neg hd];unfold fileOk;simp only [Bool.and_eq_true,inI_iff,decide_eq_true_eq,List.all_eq_true,beq_iff_eq];exact ⟨⟨⟨⟨⟨⟨b1,b2⟩,b3⟩,by omega⟩,b5⟩,b6⟩,b7⟩
 rename_i e8;split
 ·exact h
 rename_i hr;split
 ·exact h
 rename_i h40;have hn:=h7 e9 e8
 have hs:schOk (ndAt T k).schema=true:=by
  unfold schOk;simp only [Bool.or_eq_true,decide_eq_true_eq];omega
 have hsp:qaw (ndAt T k).schema e.num=spanL (qbl (ndAt T k).schema) e.num.toNat:=if_pos ⟨hs,by omega,by omega⟩;have hS:=qku hs;obtain ⟨c1,c2⟩:=spanL_sum (S:=qbl (ndAt T k).schema) (n:=e.num.toNat) (by omega) (by omega);rw [<-hsp] at c1 c2;refine qjr h rfl rfl rfl rfl ?_ (fun _=>by show (ndAt T k).schema ≠ 0;omega);rw [if_neg hd];unfold fileOk;simp only [Bool.and_eq_true,inI_iff,decide_eq_true_eq,List.all_eq_true,beq_iff_eq]
 have hsum:sumP ((ndAt T k).pieces++newP g (qaw (ndAt T k).schema e.num))=(ndAt T k).len+e.num:=by
  rw [qlb,newP_sum,c1,b6];omega
 refine ⟨⟨⟨⟨⟨⟨b1,b2⟩,?_⟩,b4⟩,?_⟩,hsum⟩,?_⟩
 ·rw [List.length_append,qff];omega
 ·intro p hp
  rcases List.mem_append.1 hp with hp | hp
  ·exact b5 p hp
  ·exact newP_ok c2 g1 (by omega) p hp
 ·rw [hsum];omega
theorem qpo {i:Nat} (hi:i<ns.length):ns.getD i default=ns[i]:=by simp [List.getD_eq_getElem?_getD,hi]
abbrev Up2 (ns:List NM):Prop:=ns.Pairwise (fun a b=>a.id<b.id)
theorem Up2.one (h:Up2 ns) {a b:NM} (ha:a ∈ ns) (hb:b ∈ ns) (e:a.id=b.id):a=b:=by
 obtain ⟨i,hi,rfl⟩:=List.getElem_of_mem ha;obtain ⟨j,hj,rfl⟩:=List.getElem_of_mem hb;have hp:=List.pairwise_iff_getElem.1 h;rcases Nat.lt_trichotomy i j with q | q | q
 ·have:=hp i j hi hj q;omega
 ·subst q;rfl
 ·have:=hp j i hj hi q;omega
theorem Up2.find (h:Up2 ns) {p:NM} (hp:p ∈ ns):∃ k,ns.findIdx? (fun n=>n.id==p.id)=some k/\ns.getD k default=p:=by
 cases e:ns.findIdx? (fun n=>n.id==p.id) with
 | none =>
  have:=List.findIdx?_eq_none_iff.1 e p hp;simp at this
 | some k =>
  obtain ⟨hk,h1,_⟩:=List.findIdx?_eq_some_iff_getElem.1 e;refine ⟨k,rfl,?_⟩;rw [qpo hk];exact h.one (List.getElem_mem hk) hp (by simpa using h1)
theorem Up2.at (h:Up2 ns) {p:NM} (hp:p ∈ ns):0<=atI ns p.id/\ns.getD (atI ns p.id).toNat default=p:=by
 obtain ⟨k,e1,e2⟩:=h.find hp;unfold atI;rw [e1];exact ⟨by simp,by simpa using e2⟩
theorem Up2.climbs (h:Up2 ns) {p:NM} (hp:p ∈ ns) (f:Nat):climbs ns (f+1) p.id=if p.parent=1 then true else climbs ns f p.parent:=by
 obtain ⟨k,e1,e2⟩:=h.find hp
 conv=>lhs;unfold Go.Proofs.YtackbhpgdohimaaGreatDoor.climbs
 rw [e1];dsimp only;rw [e2]
theorem Up2.below (h:Up2 ns) {p:NM} (hp:p ∈ ns) (f:Nat) (top:Int):qal ns (f+1) p.id top=if p.id=top then true else qal ns f p.parent top:=by
 obtain ⟨k,e1,e2⟩:=h.find hp
 conv=>lhs;unfold qal
 rw [e1];dsimp only;rw [e2]
theorem qlh {f:Nat} {c:Int} (h:climbs ns f c=true):∃ p ∈ ns,p.id=c:=by
 cases f with
 | zero=>simp [climbs] at h
 | succ f =>
  unfold climbs at h
  cases e:ns.findIdx? (fun n=>n.id==c) with
  | none=>rw [e] at h;simp at h
  | some k =>
   obtain ⟨hk,h1,_⟩:=List.findIdx?_eq_some_iff_getElem.1 e;exact ⟨ns[k],List.getElem_mem hk,by simpa using h1⟩
structure TP (T:TM):Prop where
 len:T.nodes.length<=14
 nx:T.next<=100000
 up:Up2 T.nodes
 lt:∀ n ∈ T.nodes,n.id<T.next
 first:∃ r rest,T.nodes=r::rest/\qbu r=true
 kind:∀ n ∈ T.nodes,(if n.dir then dirOk n else fileOk n)=true
 rest:∀ n ∈ T.nodes,n.id ≠ 1->nameB n.name=true/\(∃ p ∈ T.nodes,p.id=n.parent/\p.dir=true)/\climbs T.nodes 4 n.id=true
 uniq:T.nodes.Pairwise (fun a b=>¬ (a.parent=b.parent/\a.name=b.name))
theorem qbh {r:NM} (h:qbu r=true):r.id=1/\r.parent=0:=by
 unfold qbu at h;simp only [Bool.and_eq_true,beq_iff_eq] at h;exact ⟨h.1.1.1.1,h.1.1.1.2⟩
theorem up_of (h:∀ i,0<i->∀ hi:i<ns.length,ns[i - 1].id<ns[i].id):Up2 ns:=by
 refine List.pairwise_iff_getElem.2 fun i j hi hj hij=>?_
 induction j with
 | zero=>omega
 | succ j ih =>
  have h1:=h (j+1) (by omega) hj;simp only [Nat.add_sub_cancel] at h1;rcases Nat.eq_or_lt_of_le (Nat.le_of_lt_succ hij) with e | e
  ·subst e;exact h1
  ·have:=ih (by omega) e;omega
theorem TP.of (h:qae T=true):TP T:=by
 obtain ⟨l1,l2,l3⟩:=qbi h;have hg:∀ i (hi:i<T.nodes.length),T.nodes.getD i default=T.nodes[i]:=fun i hi=>qpo hi
 have hn:∀ i (hi:i<T.nodes.length),T.nodes[i].id<T.next/\(if i=0 then qbu T.nodes[i]=true else T.nodes[i - 1].id<T.nodes[i].id)/\(if T.nodes[i].dir then dirOk T.nodes[i] else fileOk T.nodes[i])=true/\(i ≠ 0->nameB T.nodes[i].name=true/\0<=atI T.nodes T.nodes[i].parent/\(T.nodes.getD (atI T.nodes T.nodes[i].parent).toNat default).dir=true/\(∀ j (hj:j<i),¬ (T.nodes[j].parent=T.nodes[i].parent/\T.nodes[j].name=T.nodes[i].name))/\climbs T.nodes 4 T.nodes[i].id=true):=by
  intro i hi;have h1:=qjp h i hi;unfold nodeOk at h1;rw [hg i hi,hg (i - 1) (by omega)] at h1;simp only [Bool.and_eq_true,Bool.or_eq_true,decide_eq_true_eq,List.all_eq_true,List.mem_range] at h1;obtain ⟨⟨⟨b1,b2⟩,b3⟩,b4⟩:=h1;refine ⟨b1,?_,b3,fun h0=>?_⟩
  ·split
   ·rename_i e;rw [if_pos e] at b2;exact b2
   ·rename_i e;rw [if_neg e] at b2;simpa using b2
  ·rcases b4 with b4 | b4
   ·exact absurd b4 h0
   ·obtain ⟨⟨⟨⟨c1,c2⟩,c3⟩,c4⟩,c5⟩:=b4
    refine ⟨c1,c2,c3,fun j hj=>?_,c5⟩;have:=c4 j hj;rw [hg j (by omega)] at this;rintro ⟨x,y⟩;simp [x,y] at this
 have up:Up2 T.nodes:=up_of fun i h0 hi=>by have:=(hn i hi).2.1;rw [if_neg (by omega)] at this;exact this
 have hr:=(hn 0 (by omega)).2.1;rw [if_pos rfl] at hr;refine ⟨l2,l3,up,?_,?_,?_,?_,?_⟩
 ·intro n hm
  obtain ⟨i,hi,rfl⟩:=List.getElem_of_mem hm;exact (hn i hi).1
 ·cases e:T.nodes with
  | nil=>rw [e] at l1;simp at l1
  | cons r rest=>exact ⟨r,rest,rfl,by simpa [e] using hr⟩
 ·intro n hm
  obtain ⟨i,hi,rfl⟩:=List.getElem_of_mem hm;exact (hn i hi).2.2.1
 ·intro n hm h1
  obtain ⟨i,hi,rfl⟩:=List.getElem_of_mem hm;have h0:i ≠ 0:=fun e=>by subst e;exact h1 (qbh hr).1
  obtain ⟨c1,c2,c3,_,c5⟩:=(hn i hi).2.2.2 h0;refine ⟨c1,?_,c5⟩;rcases qgc T.nodes T.nodes[i].parent with ⟨e,_⟩ | ⟨k,hk,e1,e2⟩
  ·rw [e] at c2;omega
  ·rw [e1] at c3
   simp only [Int.toNat_natCast] at c3;rw [hg k hk] at c3;exact ⟨_,List.getElem_mem hk,e2,c3⟩
 ·refine List.pairwise_iff_getElem.2 fun i j hi hj hij=>?_
  exact ((hn j hj).2.2.2 (by omega)).2.2.2.1 i hij
theorem TP.ok (h:TP T):qae T=true:=by
 obtain ⟨r,rest,er,hr⟩:=h.first
 have l1:1<=T.nodes.length:=by rw [er];simp
 have hg:∀ i (hi:i<T.nodes.length),T.nodes.getD i default=T.nodes[i]:=fun i hi=>qpo hi;have h0:T.nodes[0]=r:=by simp [er]
 have hup:=List.pairwise_iff_getElem.1 h.up;have huq:=List.pairwise_iff_getElem.1 h.uniq;unfold qae;simp only [Bool.and_eq_true,decide_eq_true_eq,List.all_eq_true,List.mem_range];refine ⟨⟨⟨l1,h.len⟩,h.nx⟩,fun i hi=>?_⟩;unfold nodeOk;rw [hg i hi,hg (i - 1) (by omega)];have hm:T.nodes[i] ∈ T.nodes:=List.getElem_mem hi;simp only [Bool.and_eq_true,Bool.or_eq_true,decide_eq_true_eq,List.all_eq_true,List.mem_range];refine ⟨⟨⟨h.lt _ hm,?_⟩,h.kind _ hm⟩,?_⟩
 ·split
  ·rename_i e;subst e;rw [h0];exact hr
  ·rename_i e;simpa using hup (i - 1) i (by omega) hi (by omega)
 ·by_cases e:i=0
  ·exact .inl e
  ·right
   have hid:T.nodes[i].id ≠ 1:=by
    have:=hup 0 i (by omega) hi (by omega);rw [h0,(qbh hr).1] at this;omega
   obtain ⟨c1,⟨p,hp,e1,e2⟩,c3⟩:=h.rest _ hm hid;obtain ⟨a1,a2⟩:=h.up.at hp;rw [e1] at a1 a2;refine ⟨⟨⟨⟨c1,a1⟩,by rw [a2];exact e2⟩,fun j hj=>?_⟩,c3⟩;have:=huq j i (by omega) hi hj;rw [hg j (by omega)]
   by_cases x:T.nodes[j].parent=T.nodes[i].parent
   ·by_cases y:T.nodes[j].name=T.nodes[i].name
    ·exact absurd ⟨x,y⟩ this
    ·simp [y]
   ·simp [x]
theorem TP.pos (h:TP T) {n:NM} (hn:n ∈ T.nodes):1<=n.id:=by
 obtain ⟨r,rest,er,hr⟩:=h.first
 have hu:=h.up;rw [er] at hn hu;rcases List.mem_cons.1 hn with rfl | hm
 ·have:=(qbh hr).1;omega
 ·have:=(List.pairwise_cons.1 hu).1 n hm;have:=(qbh hr).1;omega
theorem TP.root (h:TP T) {top:Int} (h0:top ≠ 0) (h1:top ≠ 1) (m:Nat):qal T.nodes m 1 top=false:=by
 obtain ⟨r,rest,er,hr⟩:=h.first
 have hm:r ∈ T.nodes:=by rw [er];simp
 obtain ⟨q1,q2⟩:=qbh hr
 cases m with
 | zero=>rfl
 | succ m =>
  have:=h.up.below hm m top;rw [q1,q2] at this;rw [this,if_neg (Ne.symm h1)]
  cases m with
  | zero=>rfl
  | succ m =>
   refine qfk (Ne.symm h0) ?_;rw [List.findIdx?_eq_none_iff];intro n hn;have:=h.pos hn;simp;omega
theorem TP.steps (h:TP T) {top:Int} (h0:top ≠ 0) (h1:top ≠ 1):∀ (f:Nat) (p:NM),p ∈ T.nodes->climbs T.nodes f p.id=true->∀ m,f+1<=m->qal T.nodes (m+1) p.id top=qal T.nodes m p.id top
 | 0,p,_,hc,_,_=>by simp [climbs] at hc
 | f+1,p,hp,hc,m,hm=>by
  obtain ⟨m,rfl⟩:∃ q,m=q+1:=⟨m - 1,by omega⟩;rw [h.up.below hp,h.up.below hp];split
  ·rfl
  rw [h.up.climbs hp] at hc
  by_cases e:p.parent=1
  ·rw [e,h.root h0 h1,h.root h0 h1]
  ·rw [if_neg e] at hc
   obtain ⟨q,hq,e2⟩:=qlh hc;rw [<-e2] at hc ⊢;exact TP.steps h h0 h1 f q hq hc m (by omega)
theorem TP.keep (h:TP T) {top:Int} (h0:top ≠ 0) (h1:top ≠ 1) {n p:NM} (hn:n ∈ T.nodes) (hp:p ∈ T.nodes) (e:p.id=n.parent) (hk:qal T.nodes 15 n.id top=false):qal T.nodes 15 p.id top=false:=by
 rw [h.up.below hn] at hk;split at hk
 ·simp at hk
 by_cases e1:p.id=1
 ·rw [e1,h.root h0 h1]
 ·rw [h.steps h0 h1 4 p hp (h.rest p hp e1).2.2 14 (by omega),e]
  exact hk
theorem TP.drop (h:TP T) {top:Int} (h0:top ≠ 0) (h1:top ≠ 1):TP (dropT T top):=by
 have hmem:∀ n,n ∈ (dropT T top).nodes↔n ∈ T.nodes/\qal T.nodes 15 n.id top=false:=fun n=>by simp [dropT]
 have hup:Up2 (dropT T top).nodes:=List.Pairwise.filter _ h.up;obtain ⟨r,rest,er,hr⟩:=h.first
 have hcl:∀ f n,n ∈ T.nodes->qal T.nodes 15 n.id top=false->climbs T.nodes f n.id=true->climbs (dropT T top).nodes f n.id=true:=by
  intro f
  induction f with
  | zero=>intro n _ _ hc;simp [climbs] at hc
  | succ f ih =>
   intro n hn hk hc;rw [h.up.climbs hn] at hc;rw [hup.climbs ((hmem n).2 ⟨hn,hk⟩)]
   by_cases e:n.parent=1
   ·rw [if_pos e]
   ·rw [if_neg e] at hc ⊢
    obtain ⟨q,hq,e2⟩:=qlh hc;rw [<-e2] at hc ⊢;exact ih q hq (h.keep h0 h1 hn hq e2 hk) hc
 refine ⟨Nat.le_trans (List.length_filter_le _ _) h.len,h.nx,hup,fun n hn=>h.lt n ((hmem n).1 hn).1,?_,fun n hn=>h.kind n ((hmem n).1 hn).1,?_,List.Pairwise.filter _ h.uniq⟩
 ·have hkr:qal T.nodes 15 r.id top=false:=by rw [(qbh hr).1];exact h.root h0 h1 15
  refine ⟨r,rest.filter (fun n=>!qal T.nodes 15 n.id top),?_,hr⟩
  show T.nodes.filter (fun n=>!qal T.nodes 15 n.id top)=_
  generalize hb:(fun n:NM=>!qal T.nodes 15 n.id top)=b;have hbr:b r=true:=by rw [<-hb];simp [hkr]
  rw [er,List.filter_cons,if_pos hbr]
 ·intro n hn hid
  obtain ⟨hm,hk⟩:=(hmem n).1 hn;obtain ⟨c1,⟨p,hp,e1,e2⟩,c3⟩:=h.rest n hm hid;exact ⟨c1,⟨p,(hmem p).2 ⟨hp,h.keep h0 h1 hm hp e1 hk⟩,e1,e2⟩,hcl 4 n hm hk c3⟩
theorem dropT_ok {top:Int} (h:qae T=true) (h0:top ≠ 0) (h1:top ≠ 1):qae (dropT T top)=true:=((TP.of h).drop h0 h1).ok
theorem qpz:∀ (L:List ByteArray) (c:Int),c ≠ 0->L ≠ []->findF ns L c=0\/∃ n ∈ ns,n.parent ≠ 0/\n.id=findF ns L c
 | [],_,_,h=>absurd rfl h
 | p::ps,c,hc,_=>by
  unfold findF;split
  ·exact .inl rfl
  ·rename_i h0
   cases ps with
   | nil =>
    rcases qpl ns c p ns 0 with e | ⟨n,hn,e1,-,e⟩
    ·exact absurd e h0
    ·exact .inr ⟨n,hn,by rw [e1];exact hc,e⟩
   | cons q qs=>exact qpz (q::qs) _ h0 (by simp)
theorem named_low (h:qae T=true) (hp:named p=true) (h0:findX T p ≠ 0):findX T p ≠ 1:=by
 have hP:=TP.of h
 have hne:(splitB p).1 ≠ []:=by
  unfold named qab at hp;split at hp
  ·rename_i q;exact q.2
  ·simp at hp
 intro e
 have h2:findX T p=findF T.nodes (splitB p).1 1:=by
  unfold findX at h0 ⊢;split at h0
  ·rename_i q;rw [if_pos q]
  ·exact absurd rfl h0
 rcases qpz (ns:=T.nodes) (splitB p).1 1 (by omega) hne with q | ⟨n,hn,h3,h4⟩
 ·rw [h2] at h0;exact h0 q
 ·obtain ⟨r,rest,er,hr⟩:=hP.first
  have hm:r ∈ T.nodes:=by rw [er];simp
  have:n=r:=hP.up.one hn hm (by rw [h4,<-h2,e,(qbh hr).1]);rw [this] at h3;exact h3 (qbh hr).2
theorem qfq (h:qaq e=true) (h10:e.kind ≠ 10):1<=e.kind/\e.kind<=10/\qim e=false/\(e.kind=5->1<=e.num/\e.num<=3)/\(e.kind=6->0<=e.num/\e.num<=1000)/\(e.kind=7->1<=e.num/\e.num<=200)/\(e.kind=9->0<=e.who/\e.who<=9):=by
 unfold qaq at h;rw [if_neg h10] at h;simp only [Bool.and_eq_true,inI_iff,Bool.not_eq_true'] at h;obtain ⟨⟨a1,a2⟩,a3,a4⟩:=h;unfold qlm at a4;refine ⟨a1,a2,a3,fun q=>?_,fun q=>?_,fun q=>?_,fun q=>?_⟩
 ·simp [q,inI_iff] at a4;omega
 ·simp [q,inI_iff] at a4;omega
 ·simp [q,inI_iff] at a4;omega
 ·simp [q,inI_iff] at a4;omega
inductive Way (ns:List NM):NM->List NM->Prop
 | root {r:NM}:r ∈ ns->r.id=1->r.parent=0->Way ns r []
 | step {n p:NM} {L:List NM}:n ∈ ns->n.id ≠ 1->p ∈ ns->p.id=n.parent->Way ns p L->Way ns n (L++[n])
theorem Way.mem {n:NM} {L:List NM} (h:Way ns n L):n ∈ ns:=by
 cases h with
 | root h=>exact h
 | step h=>exact h
theorem TP.one (h:TP T) {r:NM} (hr:r ∈ T.nodes) (e:r.id=1):r.parent=0:=by
 obtain ⟨r',rest,er,hf⟩:=h.first
 have:r=r':=h.up.one hr (by rw [er];simp) (by rw [e,(qbh hf).1]);rw [this];exact (qbh hf).2
theorem TP.root_in (h:TP T):∃ r ∈ T.nodes,r.id=1/\r.parent=0/\qbu r=true:=by
 obtain ⟨r,rest,er,hr⟩:=h.first
 exact ⟨r,by rw [er];simp,(qbh hr).1,(qbh hr).2,hr⟩
def blB (T:TM) (n:NM) (top:Int):Bool:=qal T.nodes 15 n.id top
def sm (f:NM->Int):List NM->Int
 | []=>0
 | n::ns=>f n+sm f ns
theorem qrd (c:Int) (nm:ByteArray):∀ (ns:List NM) (z:Int),z ≠ 0->ns.foldl (kidS c nm) z=z
 | [],z,_=>rfl
 | n::ns,z,hz=>by
  rw [List.foldl_cons];have:kidS c nm z n=z:=by unfold kidS;rw [if_neg (by intro q;exact hz q.2.2)]
  rw [this];exact qrd c nm ns z hz
theorem qnb (c:Int) (nm:ByteArray):∀ (ns:List NM),(∀ n ∈ ns,n.id ≠ 0)->kidF ns c nm=match ns.find? (fun n=>n.parent==c&&decide (n.name=nm)) with
  | none=>0
  | some n=>n.id
 | [],_=>rfl
 | n::ns,h=>by
  have ih:=qnb c nm ns (fun m hm=>h m (by simp [hm]));unfold kidF at ih ⊢;rw [List.foldl_cons]
  by_cases e:n.parent=c/\n.name=nm
  ·have e1:kidS c nm 0 n=n.id:=by unfold kidS;rw [if_pos ⟨e.1,e.2,rfl⟩]
   rw [e1,qrd c nm ns n.id (h n (by simp)),List.find?_cons_of_pos (by simp [e.1,e.2])]
  ·have e1:kidS c nm 0 n=0:=by unfold kidS;rw [if_neg (by intro q;exact e ⟨q.1,q.2.1⟩)]
   rw [e1,ih,List.find?_cons_of_neg (by simpa using e)]
theorem TP.same (h:TP T) {a b:NM} (ha:a ∈ T.nodes) (hb:b ∈ T.nodes) (e1:a.parent=b.parent) (e2:a.name=b.name):a=b:=by
 obtain ⟨i,hi,rfl⟩:=List.getElem_of_mem ha
 obtain ⟨j,hj,rfl⟩:=List.getElem_of_mem hb
 have hp:=List.pairwise_iff_getElem.1 h.uniq
 rcases Nat.lt_trichotomy i j with q | q | q
 · exact absurd ⟨e1,e2⟩ (hp i j hi hj q)
 · subst q;rfl
 · exact absurd ⟨e1.symm,e2.symm⟩ (hp j i hj hi q)
theorem TP.nz (h:TP T):∀ n ∈ T.nodes,n.id ≠ 0:=fun n hn=>by have:=h.pos hn;omega
theorem TP.kid (h:TP T) {n:NM} (hn:n ∈ T.nodes):kidF T.nodes n.parent n.name=n.id:=by
 rw [qnb _ _ _ h.nz]
 cases e:T.nodes.find? (fun m=>m.parent==n.parent&&decide (m.name=n.name)) with
 | none =>
  have:=List.find?_eq_none.1 e n hn;simp at this
 | some m =>
  have h1:=List.find?_some e;have h2:=List.mem_of_find?_eq_some e;simp only [Bool.and_eq_true,beq_iff_eq,decide_eq_true_eq] at h1;rw [h.same h2 hn h1.1 h1.2]
theorem TP.kid_inv (h:TP T) {c:Int} {nm:ByteArray} (h0:kidF T.nodes c nm ≠ 0):∃ n ∈ T.nodes,n.parent=c/\n.name=nm/\n.id=kidF T.nodes c nm:=by
 rw [qnb _ _ _ h.nz] at h0 ⊢
 cases e:T.nodes.find? (fun m=>m.parent==c&&decide (m.name=nm)) with
 | none=>rw [e] at h0;exact absurd rfl h0
 | some m =>
  have h1:=List.find?_some e;simp only [Bool.and_eq_true,beq_iff_eq,decide_eq_true_eq] at h1;exact ⟨m,List.mem_of_find?_eq_some e,h1.1,h1.2,rfl⟩
theorem TP.find_inv (h:TP T):∀ (M:List ByteArray) {p:NM} {L:List NM},Way T.nodes p L->findF T.nodes M p.id ≠ 0->∃ n K,Way T.nodes n K/\n.id=findF T.nodes M p.id/\K.map NM.name=L.map NM.name++M
 | [],p,L,hw,_=>⟨p,L,hw,rfl,by simp⟩
 | s::M,p,L,hw,h0=>by
  unfold findF at h0 ⊢
  by_cases e:kidF T.nodes p.id s=0
  ·rw [if_pos e] at h0;exact absurd rfl h0
  ·rw [if_neg e] at h0 ⊢
   obtain ⟨n,hn,e1,e2,e3⟩:=h.kid_inv e
   have hn1:n.id ≠ 1:=fun q=>by
    have:=h.one hn q;exact h.nz p hw.mem (by rw [<-e1,this])
   have hw2:Way T.nodes n (L++[n]):=.step hn hn1 hw.mem e1.symm hw;rw [<-e3] at h0 ⊢;obtain ⟨m,K,q1,q2,q3⟩:=TP.find_inv h M hw2 h0;exact ⟨m,K,q1,q2,by rw [q3,List.map_append];simp [e2]⟩
theorem root_at (h:TP T):0<=atI T.nodes 1:=by
 obtain ⟨r,hr,r1,_⟩:=h.root_in;have:=(h.up.at hr).1;rw [r1] at this;exact this
theorem found_way (h:qae T=true) {p:ByteArray} (h0:findX T p ≠ 0):∃ n K,Way T.nodes n K/\n.id=findX T p/\joinB (K.map NM.name)=p/\K.length<=4/\(splitB p)=(K.map NM.name,true):=by
 have hp:=TP.of h;unfold findX at h0 ⊢
 by_cases hs:(splitB p).2=true/\0<=atI T.nodes 1
 ·rw [if_pos hs] at h0 ⊢
  obtain ⟨r,hr,r1,r0,_⟩:=hp.root_in;rw [<-r1] at h0 ⊢;obtain ⟨n,K,q1,q2,q3⟩:=hp.find_inv _ (.root hr r1 r0) h0;rw [List.map_nil,List.nil_append] at q3;refine ⟨n,K,q1,q2,by rw [q3];exact joinB_split hs.1,?_,by rw [q3,<-hs.1]⟩;have:=(qcm p).2;rw [<-q3,List.length_map] at this;exact this
 ·rw [if_neg hs] at h0;exact absurd rfl h0
theorem qjy (h:qae T=true) {n x:NM} (hn:n ∈ T.nodes) (hx:x ∈ T.nodes):n.id ∈ qap T x.id↔blB T n x.id=true:=by
 have hp:=TP.of h;unfold qap blB;rw [if_pos ⟨h,(hp.up.at hx).1⟩];unfold qce;constructor
 ·intro q
  obtain ⟨m,hm,e⟩:=List.mem_map.1 q;obtain ⟨h1,h2⟩:=List.mem_filter.1 hm;rw [<-e];exact h2
 ·intro q
  exact List.mem_map.2 ⟨n,List.mem_filter.2 ⟨hn,q⟩,rfl⟩
def mustP (e:EM):ByteArray:=if e.kind=1\/e.kind=2 then (qab e.path).1 else e.path
def qcu (T:TM) (p:ByteArray):Int:=if upX T p=0 then 1 else if (ndAt T (plc T (upX T p))).dir=false then 3 else if findX T p ≠ 0 then 2 else 0
def qca (x:NM) (held:Bool):Int:=if x.dir=true then 3 else if (held != (x.writer != 0))=true then 6 else 0
def qfz (T:TM) (id:Int) (p:ByteArray):Int:=if qcu T p ≠ 0 then qcu T p else if (qap T id).contains (upX T p)=true then 7 else 0
def qdo (x:NM):Int:=if x.dir=false then 3 else 0
def qfo (T:TM) (x:NM) (q:Int):Int:=if qdo x ≠ 0 then qdo x else if 0<q/\q<usedX T x.id then 5 else 0
def qdk (T:TM) (x:NM) (l:Int):Int:=if qca x true ≠ 0 then qca x true else if roomX T x.id l=false\/1000<x.len+l then 5 else 0
def refX (T:TM) (e:EM) (x:NM):Int:=
 if e.kind=1 then qcu T e.path
 else if e.kind=2 then qcu T e.path
 else if e.kind=3 then qfz T x.id e.dest
 else if e.kind=5 then qdo x
 else if e.kind=6 then qfo T x e.num
 else if e.kind=7 then qdk T x e.num
 else if e.kind=8 then qca x true
 else if e.kind=9 then qca x false
 else 0
def chT (T:TM) (e:EM) (k:Nat) (g:Int):TM:=
 if e.kind=1 then addT T e.path newDir
 else if e.kind=2 then addT T e.path (qea e.who)
 else if e.kind=3 then setN T k { ndAt T k with parent:=upX T e.dest,name:=(qab e.dest).2.1 }
 else if e.kind=4 then dropT T (ndAt T k).id
 else if e.kind=5 then setN T k { ndAt T k with schema:=e.num }
 else if e.kind=6 then setN T k { ndAt T k with quota:=e.num }
 else if e.kind=7 then setN T k { ndAt T k with pieces:=(ndAt T k).pieces++newP g (qaw (ndAt T k).schema e.num),len:=(ndAt T k).len+e.num }
 else if e.kind=8 then setN T k { ndAt T k with writer:=0 }
 else if e.kind=9 then setN T k { ndAt T k with writer:=e.who }
 else T
def takX (T:TM) (e:EM) (k:Nat):Int:=if e.kind=7 then ((qaw (ndAt T k).schema e.num).length:Int) else if e.kind=10 then 20 else 0
def noT:TM:=⟨[],0⟩
def stpX (T:TM) (e:EM) (g:Int):TM × Int × Int:=
 if mayX T e g=false then (noT,0,7)
 else if findX T (mustP e)=0 then (noT,0,1)
 else if refX T e (ndAt T (plc T (findX T (mustP e)))) ≠ 0 then (noT,0,refX T e (ndAt T (plc T (findX T (mustP e)))))
 else if qae (chT T e (plc T (findX T (mustP e))) g)=false then (noT,0,8)
 else (chT T e (plc T (findX T (mustP e))) g,takX T e (plc T (findX T (mustP e))),0)
theorem qeo (h:qae T=true) {p:ByteArray} (h0:findX T p ≠ 0):plc T (findX T p)<T.nodes.length/\(ndAt T (plc T (findX T p))).id=findX T p/\ndAt T (plc T (findX T p)) ∈ T.nodes:=by
 obtain ⟨n,K,hw,e,_⟩:=found_way h h0;have hp:=TP.of h;obtain ⟨k,hk,e2⟩:=hp.up.find hw.mem;have hkl:k<T.nodes.length:=(List.findIdx?_eq_some_iff_getElem.1 hk).1;have hat:atI T.nodes n.id=(k:Int):=by unfold atI;rw [hk]
 have hpl:plc T (findX T p)=k:=by unfold plc;rw [<-e,hat];rfl
 rw [hpl];have:ndAt T k=n:=e2;rw [this];exact ⟨hkl,e,hw.mem⟩
theorem find_root (h:qae T=true):findX T ⟨#[47]⟩=1:=by
 unfold findX;have e:splitB ⟨#[47]⟩=([],true):=by decide
 rw [e,if_pos ⟨rfl,root_at (TP.of h)⟩]
 rfl
theorem qkv (h:mayX T e g=true):qae T=true/\qaq e=true/\1<=g/\g<=99000:=by
 unfold mayX at h;simp only [Bool.and_eq_true,inI_iff] at h;exact ⟨h.1.1,h.1.2,h.2.1,h.2.2⟩
theorem qkw (h:qaq e=true):1<=e.kind/\e.kind<=10:=by
 unfold qaq at h;rw [Bool.and_eq_true,inI_iff] at h;exact h.1
theorem boot_path (h:qaq e=true) (h10:e.kind=10):e.path=⟨#[47]⟩:=by
 unfold qaq at h;rw [Bool.and_eq_true,if_pos h10] at h;simp only [Bool.and_eq_true,beq_iff_eq,Go.ByteArray.toList_eq] at h;have:=h.2.1.1.1;exact ByteArray.ext (Array.toList_inj.1 this)
theorem more_nodes (h:T.nodes.length=14\/T.next=100000):qae (addT T p x)=false:=by
 refine Bool.eq_false_iff.2 fun hc=>?_;obtain ⟨_,h2,h3⟩:=qbi hc;unfold addT at h2 h3;simp only [List.length_append,List.length_singleton] at h2;rcases h with q | q
 ·omega
 ·have:(T.next+1:Int)<=100000:=h3
  omega
theorem qss (hu:upX T p ≠ 0):addX T p x=if qcu T p ≠ 0 then (T,qcu T p) else if qae (addT T p x)=false then (T,8) else (addT T p x,0):=by
 unfold addX qcu;rw [if_neg hu,if_neg hu]
 by_cases h1:(ndAt T (plc T (upX T p))).dir=false
 ·rw [if_pos h1,if_pos h1];rfl
 ·rw [if_neg h1,if_neg h1]
  by_cases h2:findX T p ≠ 0
  ·rw [if_pos h2,if_pos h2];rfl
  ·rw [if_neg h2,if_neg h2]
   by_cases h3:qae (addT T p x)=false
   ·simp only [h3,or_true,if_true];rfl
   ·have h4:¬ (T.nodes.length=14\/T.next=100000):=fun q=>h3 (more_nodes q)
    rw [if_neg (fun q=>by rcases q with q | q | q;exact h4 (.inl q);exact h4 (.inr q);exact h3 q),if_neg h3]
    rfl
theorem up_below (h:qae T=true) {p:ByteArray} {x:NM} (hx:x ∈ T.nodes) (hu:upX T p ≠ 0):(qap T x.id).contains (upX T p)=qal T.nodes 15 (upX T p) x.id:=by
 obtain ⟨_,e,hm⟩:=qeo h (p:=(qab p).1) hu;have h1:=qjy h hm hx;have e':(ndAt T (plc T (upX T p))).id=upX T p:=e;change (ndAt T (plc T (upX T p))).id ∈ qap T x.id↔blB T (ndAt T (plc T (upX T p))) x.id=true at h1;unfold blB at h1;rw [e'] at h1;rw [Bool.eq_iff_iff,List.contains_iff_mem];exact h1
theorem move_is (h:qae T=true) {p:ByteArray} {x:NM} (hx:x ∈ T.nodes):moveX T p x.id=if qfz T x.id p ≠ 0 then (T,qfz T x.id p) else if qae (moveT T p x.id)=false then (T,8) else (moveT T p x.id,0):=by
 unfold moveX qfz qcu
 by_cases h0:upX T p=0
 ·rw [if_pos h0,if_pos h0];rfl
 rw [if_neg h0,if_neg h0]
 by_cases h1:(ndAt T (plc T (upX T p))).dir=false
 ·rw [if_pos h1,if_pos h1];rfl
 rw [if_neg h1,if_neg h1]
 by_cases h2:findX T p ≠ 0
 ·rw [if_pos h2,if_pos h2];rfl
 rw [if_neg h2,if_neg h2,up_below h hx h0]
 by_cases h3:qal T.nodes 15 (upX T p) x.id=true
 ·rw [if_pos h3,if_pos h3];rfl
 rw [if_neg h3,if_neg h3]
 rfl
theorem qst (hk:k<T.nodes.length):ndAt (setN T k x) k=x:=by
 unfold ndAt setN;simp [List.getD,hk]
theorem too_many (hk:k<T.nodes.length) (h:40<x.pieces.length):qae (setN T k x)=false:=by
 refine Bool.eq_false_iff.2 fun hc=>?_;have hk2:k<(setN T k x).nodes.length:=by unfold setN;simpa using hk
 have:=(qbr hc k hk2).2.1;rw [<-qev hk2,qst hk] at this;omega
theorem stp_apply (T:TM) (e:EM) (g:Int):(stpX T e g).2.2=(qak T e g).2/\((qak T e g).2=0->(stpX T e g).1=(qak T e g).1)/\((qak T e g).2 ≠ 0->(qak T e g).1=T)/\g+(stpX T e g).2.1=qay T e g:=by
 by_cases hm:mayX T e g=false
 ·have h1:qak T e g=(T,7):=by unfold qak;rw [if_pos hm]
  have h2:stpX T e g=(noT,0,7):=by unfold stpX;rw [if_pos hm]
  unfold qay;rw [h1,h2];simp
 have hm':mayX T e g=true:=by simpa using hm
 obtain ⟨hT,hE,g1,g2⟩:=qkv hm';obtain ⟨hk1,hk2⟩:=qkw hE
 -- the pattern: what the model does is a code,or a tree and no code
 have key:∀ (k:Nat) (r:Int) (C:TM) (t:Int),findX T (mustP e) ≠ 0->plc T (findX T (mustP e))=k->refX T e (ndAt T k)=r->chT T e k g=C->takX T e k=t ->
   qak T e g=(if r ≠ 0 then (T,r) else if qae C=false then (T,8) else (C,0)) ->
   (r=0->qae C=true->qay T e g=g+t) ->
   (stpX T e g).2.2=(qak T e g).2/\((qak T e g).2=0->(stpX T e g).1=(qak T e g).1)/\((qak T e g).2 ≠ 0->(qak T e g).1=T)/\g+(stpX T e g).2.1=qay T e g:=by
  intro k r C t hf hk hr hC ht ha hg
  have hs:stpX T e g=if r ≠ 0 then (noT,0,r) else if qae C=false then (noT,0,8) else (C,t,0):=by
   unfold stpX;rw [if_neg hm,if_neg hf,hk,hr,hC,ht]
  by_cases q1:r ≠ 0
  ·have hgx:qay T e g=g:=by unfold qay;rw [ha,if_pos q1,if_pos q1]
   rw [hs,ha,hgx,if_pos q1,if_pos q1];exact ⟨rfl,fun q=>absurd q q1,fun _=>rfl,by simp⟩
  ·by_cases q2:qae C=false
   ·have hgx:qay T e g=g:=by unfold qay;rw [ha,if_neg q1,if_pos q2];rfl
    rw [hs,ha,hgx,if_neg q1,if_neg q1,if_pos q2,if_pos q2];exact ⟨rfl,fun q=>absurd (show (8:Int)=0 from q) (by decide),fun _=>rfl,by simp⟩
   ·have hgx:=hg (by simpa using q1) (by simpa using q2)
    rw [hs,ha,hgx,if_neg q1,if_neg q1,if_neg q2,if_neg q2];exact ⟨rfl,fun _=>rfl,fun q=>absurd rfl q,rfl⟩
 have gz:∀ {t:Int},t=0->e.kind ≠ 7->e.kind ≠ 10->(qay T e g=g+t):=fun {t} ht h7 h10=>by
  unfold qay;rw [if_neg h10,if_pos h7,ht];split <;> simp
 have tz:∀ k,e.kind ≠ 7->e.kind ≠ 10->takX T e k=0:=fun k h7 h10=>by unfold takX;rw [if_neg h7,if_neg h10]
 by_cases k10:e.kind=10
 ·have hp:=boot_path hE k10
  have hmp:mustP e=⟨#[47]⟩:=by unfold mustP;rw [if_neg (by omega),hp]
  have hf:findX T (mustP e)=1:=by rw [hmp];exact find_root hT
  refine key _ 0 T 20 (by rw [hf];decide) rfl (by unfold refX;simp [k10]) (by unfold chT;simp [k10]) (by unfold takX;simp [k10]) (by unfold qak;simp [hm',k10,hT]) (fun _ _=>?_);unfold qay qak;simp [hm',k10]
 by_cases k1:e.kind=1
 ·have hmp:mustP e=(qab e.path).1:=by unfold mustP;rw [if_pos (.inl k1)]
  by_cases hf:upX T e.path=0
  ·have hf':findX T (mustP e)=0:=by rw [hmp];exact hf
   have h1:qak T e g=(T,1):=by unfold qak addX;simp [hm',k1,hf]
   have h2:stpX T e g=(noT,0,1):=by unfold stpX;rw [if_neg hm,if_pos hf']
   unfold qay;rw [h1,h2];simp
  ·refine key _ (qcu T e.path) (addT T e.path newDir) 0 (by rw [hmp];exact hf) rfl (by unfold refX;rw [if_pos k1]) (by unfold chT;rw [if_pos k1]) (tz _ (by omega) (by omega)) ?_ (fun _ _=>gz rfl (by omega) (by omega))
   have:qak T e g=addX T e.path newDir:=by unfold qak;simp [hm',k1]
   rw [this,qss hf]
 by_cases k2:e.kind=2
 ·have hmp:mustP e=(qab e.path).1:=by unfold mustP;rw [if_pos (.inr k2)]
  by_cases hf:upX T e.path=0
  ·have hf':findX T (mustP e)=0:=by rw [hmp];exact hf
   have h1:qak T e g=(T,1):=by unfold qak addX;simp [hm',k2,hf]
   have h2:stpX T e g=(noT,0,1):=by unfold stpX;rw [if_neg hm,if_pos hf']
   unfold qay;rw [h1,h2];simp
  ·refine key _ (qcu T e.path) (addT T e.path (qea e.who)) 0 (by rw [hmp];exact hf) rfl (by unfold refX;rw [if_neg k1,if_pos k2]) (by unfold chT;rw [if_neg k1,if_pos k2]) (tz _ (by omega) (by omega)) ?_ (fun _ _=>gz rfl (by omega) (by omega))
   have:qak T e g=addX T e.path (qea e.who):=by unfold qak;simp [hm',k2]
   rw [this,qss hf]
 have hmp:mustP e=e.path:=by unfold mustP;rw [if_neg (by omega)]
 by_cases hf:findX T e.path=0
 ·have hf':findX T (mustP e)=0:=by rw [hmp];exact hf
  have h1:qak T e g=(T,1):=by unfold qak;simp [hm',k1,k2,k10,hf]
  have h2:stpX T e g=(noT,0,1):=by unfold stpX;rw [if_neg hm,if_pos hf']
  unfold qay;rw [h1,h2];simp
 have hf':findX T (mustP e) ≠ 0:=by rw [hmp];exact hf
 obtain ⟨hkl,hid,hmem⟩:=qeo hT hf;obtain ⟨k,hk⟩:∃ k,k=plc T (findX T e.path):=⟨_,rfl⟩;have hkm:plc T (findX T (mustP e))=k:=by rw [hmp,hk]
 rw [<-hk] at hkl hid hmem;obtain ⟨n1,n2,n3,n5,n6,n7,n9⟩:=qfq hE k10
 have hap:qak T e g=if e.kind=3 then moveX T e.dest (findX T e.path) else if e.kind=4 then (dropT T (findX T e.path),0) else if e.kind=5\/e.kind=6 then setX T e k else qcd T e k g:=by
  unfold qak;rw [if_neg hm,if_neg k10,if_neg k1,if_neg k2,if_neg hf,<-hk]
 by_cases k3:e.kind=3
 ·refine key k (qfz T (ndAt T k).id e.dest) _ 0 hf' hkm (by unfold refX;rw [if_neg k1,if_neg k2,if_pos k3]) rfl (tz _ (by omega) (by omega)) ?_ (fun _ _=>gz rfl (by omega) (by omega))
  rw [hap,if_pos k3,<-hid,move_is hT hmem]
  have:chT T e k g=moveT T e.dest (ndAt T k).id:=by
   unfold chT moveT;rw [if_neg k1,if_neg k2,if_pos k3,hid,<-hk]
  rw [this]
 by_cases k4:e.kind=4
 ·have hnm:named e.path=true:=by
   unfold qim at n3;simp [k4] at n3;exact n3.1.1
  have hok:=dropT_ok hT hf (named_low hT hnm hf);refine key k 0 _ 0 hf' hkm (by unfold refX;simp [k4]) rfl (tz _ (by omega) (by omega)) ?_ (fun _ _=>gz rfl (by omega) (by omega));have:chT T e k g=dropT T (findX T e.path):=by unfold chT;simp [k4,hid]
  rw [hap,if_neg k3,if_pos k4,this,hok];simp
 by_cases k5:e.kind=5
 ·have hok:=qrg (e:=e) hT hkl (.inl ⟨k5,n5 k5⟩)
  refine key k (qdo (ndAt T k)) _ 0 hf' hkm (by unfold refX;simp [k5]) rfl (tz _ (by omega) (by omega)) ?_ (fun _ _=>gz rfl (by omega) (by omega));have hc:chT T e k g=setN T k { ndAt T k with schema:=e.num }:=by unfold chT;simp [k5]
  rw [hap,if_neg k3,if_neg k4,if_pos (.inl k5),hc];unfold setX at hok ⊢;unfold qdo
  by_cases hd:(ndAt T k).dir=false
  ·rw [if_pos hd,if_pos hd];rfl
  ·rw [if_neg hd,if_pos k5] at hok
   rw [if_neg hd,if_neg hd,if_pos k5];simp only [hok]
   rfl
 by_cases k6:e.kind=6
 ·have hok:=qrg (e:=e) hT hkl (.inr ⟨k6,n6 k6⟩)
  refine key k (qfo T (ndAt T k) e.num) _ 0 hf' hkm (by unfold refX;simp [k6]) rfl (tz _ (by omega) (by omega)) ?_ (fun _ _=>gz rfl (by omega) (by omega));obtain ⟨x,hx⟩:∃ x,x = { ndAt T k with quota:=e.num }:=⟨_,rfl⟩;have hc:chT T e k g=setN T k x:=by rw [hx];unfold chT;simp [k6]
  rw [hap,if_neg k3,if_neg k4,if_pos (.inr k6),hc];unfold setX at hok ⊢;rw [<-hx] at hok ⊢
  by_cases hd:(ndAt T k).dir=false
  ·have hr:qfo T (ndAt T k) e.num=3:=by unfold qfo qdo;simp [hd]
   rw [if_pos hd,hr];rfl
  ·have hr:qfo T (ndAt T k) e.num=if 0<e.num/\e.num<usedX T (ndAt T k).id then 5 else 0:=by unfold qfo qdo;simp [hd]
   rw [if_neg hd,if_neg k5] at hok;rw [if_neg hd,if_neg k5,hr]
   by_cases hq:0<e.num/\e.num<usedX T (ndAt T k).id
   ·rw [if_pos hq,if_pos hq];rfl
   ·rw [if_neg hq] at hok
    rw [if_neg hq,if_neg hq];simp only at hok;rw [hok]
    rfl
 have hok:=writeX_ok (e:=e) (g:=g) hT hkl (fun h9 h8=>n7 (by omega)) n9 g1 g2;have hap2:qak T e g=qcd T e k g:=by rw [hap,if_neg k3,if_neg k4,if_neg (by omega)]
 by_cases k9:e.kind=9
 ·refine key k (qca (ndAt T k) false) _ 0 hf' hkm (by unfold refX;simp [k9]) rfl (tz _ (by omega) (by omega)) ?_ (fun _ _=>gz rfl (by omega) (by omega))
  have hc:chT T e k g=setN T k { ndAt T k with writer:=e.who }:=by unfold chT;simp [k9]
  rw [hap2,hc];unfold qcd at hok ⊢;unfold qca
  by_cases hd:(ndAt T k).dir=true
  ·rw [if_pos hd,if_pos hd];rfl
  ·rw [if_neg hd] at hok
   rw [if_neg hd,if_neg hd]
   by_cases hw:(ndAt T k).writer=0
   ·simp only [k9,hw] at hok ⊢
    simpa using hok
   ·simp [k9,hw]
 by_cases k8:e.kind=8
 ·refine key k (qca (ndAt T k) true) _ 0 hf' hkm (by unfold refX;simp [k8]) rfl (tz _ (by omega) (by omega)) ?_ (fun _ _=>gz rfl (by omega) (by omega))
  have hc:chT T e k g=setN T k { ndAt T k with writer:=0 }:=by unfold chT;simp [k8]
  rw [hap2,hc];unfold qcd at hok ⊢;unfold qca
  by_cases hd:(ndAt T k).dir=true
  ·rw [if_pos hd,if_pos hd];rfl
  ·rw [if_neg hd] at hok
   rw [if_neg hd,if_neg hd]
   by_cases hw:(ndAt T k).writer=0
   ·simp [k8,hw]
   ·simp only [k8] at hok ⊢
    simp [hw] at hok ⊢;exact hok
 have k7:e.kind=7:=by omega
 obtain ⟨x,hx⟩:∃ x,x = { ndAt T k with pieces:=(ndAt T k).pieces++newP g (qaw (ndAt T k).schema e.num),len:=(ndAt T k).len+e.num }:=⟨_,rfl⟩;have hc:chT T e k g=setN T k x:=by rw [hx];unfold chT;simp [k7]
 have hxl:x.pieces.length=(ndAt T k).pieces.length+(qaw (ndAt T k).schema e.num).length:=by rw [hx,List.length_append,qff]
 have ha9:qak T e g=(if qdk T (ndAt T k) e.num ≠ 0 then (T,qdk T (ndAt T k) e.num) else if qae (setN T k x)=false then (T,8) else (setN T k x,0)):=by
  rw [hap2];unfold qcd at hok ⊢;rw [<-hx] at hok ⊢
  by_cases hd:(ndAt T k).dir=true
  ·have hr:qdk T (ndAt T k) e.num=3:=by unfold qdk qca;simp [hd]
   rw [if_pos hd,hr];rfl
  ·rw [if_neg hd] at hok
   rw [if_neg hd]
   by_cases hw:(ndAt T k).writer=0
   ·have hr:qdk T (ndAt T k) e.num=6:=by unfold qdk qca;simp [hd,hw]
    rw [hr];simp [k7,hw]
   ·have e1:((e.kind==9) != ((ndAt T k).writer==0))=false:=by simp [k7,hw]
    have hfr:qca (ndAt T k) true=0:=by unfold qca;simp [hd,hw]
    have hr:qdk T (ndAt T k) e.num=if roomX T (ndAt T k).id e.num=false\/1000<(ndAt T k).len+e.num then 5 else 0:=by unfold qdk;rw [hfr,if_neg (by decide)]
    rw [e1,if_neg (by decide),if_neg k9,if_neg k8] at hok;rw [e1,if_neg (by decide),if_neg k9,if_neg k8,hr]
    by_cases hro:roomX T (ndAt T k).id e.num=false\/1000<(ndAt T k).len+e.num
    ·rw [if_pos hro,if_pos hro];rfl
    ·rw [if_neg hro] at hok
     rw [if_neg hro,if_neg hro]
     by_cases h40:40<(ndAt T k).pieces.length+(qaw (ndAt T k).schema e.num).length
     ·rw [if_pos h40,too_many hkl (by rw [hxl];exact h40)]
      rfl
     ·rw [if_neg h40] at hok
      simp only at hok;rw [if_neg h40,hok]
      rfl
 refine key k (qdk T (ndAt T k) e.num) (setN T k x) _ hf' hkm (by unfold refX;simp [k7]) hc rfl ha9 (fun q1 q2=>?_);have ha:qak T e g=(setN T k x,0):=by rw [ha9,q1,q2];rfl
 unfold qay takX;rw [ha,if_neg (by simp),if_neg k10,if_neg (by simp [k7]),if_pos k7,<-hk,qst hkl,hxl]
 push_cast
 omega
end
section
open BigFrame
variable {p:ByteArray}
def pathQ (e:EM):Bool:=if e.kind=10 then e.path.toList==[47] else if e.kind=5\/e.kind=6 then (e.path.toList==[47])||named e.path else named e.path
def destQ (e:EM):Bool:=if e.kind=3 then named e.dest else e.dest.toList==[]
def numQ (e:EM):Bool:=if e.kind=5 then inI e.num 1 3 else if e.kind=6 then inI e.num 0 1000 else if e.kind=7 then inI e.num 1 200 else e.num==0
def whoQ (e:EM):Bool:=if e.kind=2\/e.kind=9 then inI e.who 1 9 else e.who==0
theorem not_named_nil (h:(p.toList==[])=true):named p=false:=by
 rw [Go.ByteArray.toList_eq,beq_iff_eq] at h;have hp:p=⟨#[]⟩:=ByteArray.ext (Array.toList_inj.1 h);subst hp
 rfl
theorem qrm (e:EM):qaq e=(inI e.kind 1 10&&pathQ e&&destQ e&&numQ e&&whoQ e):=by
 unfold qaq qim qlm pathQ destQ numQ whoQ;have hn:=@not_named_nil e.dest;generalize named e.dest=nd at *;generalize named e.path=np at *;generalize (e.path.toList==[47])=rt at *;have hne:(e.dest.toList != []) = !(e.dest.toList==[]):=rfl;rw [hne];generalize (e.dest.toList==[])=te at *;generalize inI e.num 1 3=a1 at *;generalize inI e.num 0 1000=a2 at *;generalize inI e.num 1 200=a3 at *;generalize inI e.who 1 9=a4 at *;generalize (e.num==0)=a5 at *;generalize (e.who==0)=a6 at *
 cases hk:inI e.kind 1 10 with
 | false=>simp
 | true =>
  have hk':=inI_iff.1 hk;have hc:e.kind=1\/e.kind=2\/e.kind=3\/e.kind=4\/e.kind=5\/e.kind=6\/e.kind=7\/e.kind=8\/e.kind=9\/e.kind=10:=by omega
  rcases hc with h | h | h | h | h | h | h | h | h | h <;> rw [h] <;> simp <;> revert hn <;> cases nd <;> cases te <;> simp <;> cases np <;> cases rt <;> simp [Bool.and_comm]
theorem implPathQ (e:EM) (w:World) (hf:EFit e):Calls Tryz.prog 113 #[ev e] w fun r w'=>r = .returned (.bool (pathQ e))/\Below w.heap.size w w':=by
 have HN:=zS (fun W=>qkd e.path W hf.1);have HR:Sh (pathQ e=if e.kind=10 then e.path.toList==[47] else if e.kind=5\/e.kind=6 then (e.path.toList==[47])||named e.path else named e.path):=⟨rfl⟩;generalize pathQ e=R at *;generalize named e.path=np at *;obtain ⟨kind,path,dest,num,who⟩:=e;dsimp only at *;clear hf;go_enter Tryz.func113,Tryz.ntmps113;go_wp2_with (go_at_call 155;refine (HN.1 _).mono ?_;rintro r w1 ⟨rfl,hb1⟩)
 all_goals
  go_ret;refine ⟨by rw [HR.1];(try simp only [beq_iff_eq,beq_eq_false_iff_ne,ne_eq] at *);simp [*],?_⟩
  first
   | exact zB.alloc zL _
   | exact (zB.alloc zL _).trans (hb1.mono (by simp))
theorem implDestQ (e:EM) (w:World) (hf:EFit e):Calls Tryz.prog 114 #[ev e] w fun r w'=>r = .returned (.bool (destQ e))/\Below w.heap.size w w':=by
 have HN:=zS (fun W=>qkd e.dest W hf.2);have HR:Sh (destQ e=if e.kind=3 then named e.dest else e.dest.toList==[]):=⟨rfl⟩;generalize destQ e=R at *;generalize named e.dest=np at *;obtain ⟨kind,path,dest,num,who⟩:=e;dsimp only at *;clear hf;go_enter Tryz.func114,Tryz.ntmps114;go_wp2_with (go_at_call 155;refine (HN.1 _).mono ?_;rintro r w1 ⟨rfl,hb1⟩)
 all_goals
  go_ret;refine ⟨by rw [HR.1];(try simp only [beq_iff_eq,beq_eq_false_iff_ne,ne_eq] at *);simp [*],?_⟩
  first
   | exact zB.alloc zL _
   | exact (zB.alloc zL _).trans (hb1.mono (by simp))
theorem implNumQ (e:EM) (w:World):Calls Tryz.prog 115 #[ev e] w fun r w'=>r = .returned (.bool (numQ e))/\Below w.heap.size w w':=by
 have HR:Sh (numQ e=if e.kind=5 then inI e.num 1 3 else if e.kind=6 then (decide (0<=e.num)&&decide (e.num<=1000)) else if e.kind=7 then (decide (1<=e.num)&&decide (e.num<=200)) else e.num==0):=⟨rfl⟩;generalize numQ e=R at *;obtain ⟨kind,path,dest,num,who⟩:=e;dsimp only at *;go_enter Tryz.func115,Tryz.ntmps115;go_wp2_with (go_at_call 149;refine (qdi _ _).mono ?_;rintro r w1 ⟨rfl,rfl⟩)
 all_goals
  go_ret;refine ⟨by rw [HR.1];(try simp only [beq_iff_eq,beq_eq_false_iff_ne,ne_eq] at *);first | (simp [*];done) | (simp [*];omega),?_⟩;exact zB.alloc zL _
theorem implWhoQ (e:EM) (w:World):Calls Tryz.prog 116 #[ev e] w fun r w'=>r = .returned (.bool (whoQ e))/\Below w.heap.size w w':=by
 have HR:Sh (whoQ e=if e.kind=2\/e.kind=9 then (decide (1<=e.who)&&decide (e.who<=9)) else e.who==0):=⟨rfl⟩;generalize whoQ e=R at *;obtain ⟨kind,path,dest,num,who⟩:=e;dsimp only at *;go_enter Tryz.func116,Tryz.ntmps116;go_wp2_with fail
 all_goals
  go_ret;refine ⟨by rw [HR.1];(try simp only [beq_iff_eq,beq_eq_false_iff_ne,ne_eq] at *);first | (simp [*];done) | (simp [*];omega),?_⟩;exact zB.alloc zL _
theorem qso (w:World) (e:EM) (T:TypeId):EC w w.heap.size e (w.alloc (.cells #[.int .i64 e.kind,.string e.path,.string e.dest,.int .i64 e.num,.int .i64 e.who] T)):=by
 have h:=qac w #[.int .i64 e.kind,.string e.path,.string e.dest,.int .i64 e.num,.int .i64 e.who] T;exact ⟨(h.2 0 _ rfl).1,(h.2 1 _ rfl).1,(h.2 2 _ rfl).1,(h.2 3 _ rfl).1,(h.2 4 _ rfl).1,⟨zB.alloc zL _⟩⟩
theorem qlo (e:EM) (w:World) (hf:EFit e):Calls Tryz.prog 63 #[ev e] w fun r w'=>r = .returned (.bool (qaq e))/\Below w.heap.size w w':=by
 have H1:=zS (fun W=>implPathQ e W hf);have H2:=zS (fun W=>implDestQ e W hf);have H3:=zS (fun W=>implNumQ e W);have H4:=zS (fun W=>implWhoQ e W);have HR:=zS (qrm e);have HN:=zS (qso w e 47);generalize qaq e=R at *;generalize pathQ e=q1 at *;generalize destQ e=q2 at *;generalize numQ e=q3 at *;generalize whoQ e=q4 at *;unfold inI at HR;obtain ⟨kind,path,dest,num,who⟩:=e;dsimp only at *;clear hf;go_enter Tryz.func63,Tryz.ntmps63
 go_wp2_with (first
  | (go_at_call 113;refine (H1.1 _).mono ?_;rintro r w1 ⟨rfl,hb1⟩;obtain ⟨c0,c1,c2,c3,c4,hB⟩:=HN.1.below hb1;clear hb1;dsimp only at c0 c1 c2 c3 c4)
  | (go_at_call 114;refine (H2.1 _).mono ?_;rintro r w1 ⟨rfl,hb1⟩;obtain ⟨c0,c1,c2,c3,c4,hB⟩:=EC.below (e:=⟨kind,path,dest,num,who⟩) ⟨c0,c1,c2,c3,c4,hB⟩ hb1;clear hb1;dsimp only at c0 c1 c2 c3 c4)
  | (go_at_call 115;refine (H3.1 _).mono ?_;rintro r w1 ⟨rfl,hb1⟩;obtain ⟨c0,c1,c2,c3,c4,hB⟩:=EC.below (e:=⟨kind,path,dest,num,who⟩) ⟨c0,c1,c2,c3,c4,hB⟩ hb1;clear hb1;dsimp only at c0 c1 c2 c3 c4)
  | (go_at_call 116;refine (H4.1 _).mono ?_;rintro r w1 ⟨rfl,hb1⟩;obtain ⟨c0,c1,c2,c3,c4,hB⟩:=EC.below (e:=⟨kind,path,dest,num,who⟩) ⟨c0,c1,c2,c3,c4,hB⟩ hb1;clear hb1;dsimp only at c0 c1 c2 c3 c4))
 all_goals
  go_ret;refine ⟨by rw [HR.1];first | (simp [*];done) | (simp [*];omega),?_⟩
  first
   | exact hB.1
   | exact zB.alloc zL _
theorem qin (h:named p=true):p.size<=36:=by
 unfold named qab at h;split at h
 ·rename_i hc
  exact split_size (p:=lb p) hc.1
 ·cases h
theorem qlp {e:EM} (h:qaq e=true):e.path.size<=36/\e.dest.size<=36:=by
 rw [qrm] at h;simp only [Bool.and_eq_true] at h;obtain ⟨⟨⟨⟨-,h1⟩,h2⟩,-⟩,-⟩:=h
 have one:∀ p:ByteArray,(p.toList==[47])=true->p.size<=36:=fun p hp=>by
  rw [Go.ByteArray.toList_eq,beq_iff_eq] at hp;have:p.data.size=1:=by rw [<-Array.length_toList,hp];rfl
  show p.data.size<=_
  omega
 have nil:∀ p:ByteArray,(p.toList==[])=true->p.size<=36:=fun p hp=>by
  rw [Go.ByteArray.toList_eq,beq_iff_eq] at hp;have:p.data.size=0:=by rw [<-Array.length_toList,hp];rfl
  show p.data.size<=_
  omega
 refine ⟨?_,?_⟩
 ·unfold pathQ at h1
  split at h1
  ·exact one _ h1
  ·split at h1
   ·rw [Bool.or_eq_true] at h1
    exact h1.elim (one _) qin
   ·exact qin h1
 ·unfold destQ at h2
  split at h2
  ·exact qin h2
  ·exact nil _ h2
theorem editT_short (e:EM):editT e=⟨#[UInt8.ofNat e.kind.toNat,UInt8.ofNat e.who.toNat]⟩++qgz e.path++qgz e.dest++(⟨(W.vt e.num.toNat).toArray⟩:ByteArray):=by
 unfold editT qgz vb;simp only [ByteArray.append_assoc]
theorem implEditText (e:EM) (w:World) (hf:EFit e):Calls Tryz.prog 70 #[ev e] w fun r w'=>r = .returned (.tuple #[.string (if qaq e then editT e else ⟨#[]⟩),.bool (qaq e)])/\Below w.heap.size w w':=by
 have HOK:=zS (fun W=>qlo e W hf);have HN:=zS (qso w e 47)
 cases hok:qaq e with
 | false =>
  rw [hok] at HOK;clear hok;obtain ⟨kind,path,dest,num,who⟩:=e;go_enter Tryz.func70,Tryz.ntmps70;go_wp2_with (go_at_call 63;refine (HOK.1 _).mono ?_;rintro e w1 ⟨rfl,hb1⟩);go_ret2
  exact ⟨rfl,(zB.alloc zL _).trans (hb1.mono (by simp))⟩
 | true =>
  rw [hok] at HOK;obtain ⟨n1,n2,n3,n4,n5,n6⟩:=qft hok;obtain ⟨s1,s2⟩:=qlp hok;have hT:=editT_short e;obtain ⟨kind,path,dest,num,who⟩:=e;dsimp only at *;clear hok hf;obtain ⟨n,rfl⟩:=Int.eq_ofNat_of_zero_le n5;have v1:=W.vt_len path.size;have v2:=W.vt_len dest.size;have v3:=W.vt_len n;have HV1:=zS (fun W=>qfa path W (by omega));have HV2:=zS (fun W=>qfa dest W (by omega));have HV3:=zS (fun W=>qek n W (by omega));have t1:(qgz path).size<=2000000:=by unfold qgz;rw [ByteArray.size_append];show (W.vt path.size).toArray.size+_<=_;rw [List.size_toArray];omega
  have t2:(qgz dest).size<=2000000:=by unfold qgz;rw [ByteArray.size_append];show (W.vt dest.size).toArray.size+_<=_;rw [List.size_toArray];omega
  have t3:(⟨(W.vt n).toArray⟩:ByteArray).size<=2000000:=by show (W.vt n).toArray.size<=_;rw [List.size_toArray];omega
  have t0:(⟨#[UInt8.ofNat kind.toNat,UInt8.ofNat who.toNat]⟩:ByteArray).size<=2:=by simp [ByteArray.size]
  have hk:=qmp kind (by omega) (by omega);have hw:=qmp who (by omega) (by omega);rw [Int.toNat_natCast] at hT;generalize qgz path=V1 at HV1 hT t1;generalize qgz dest=V2 at HV2 hT t2;generalize (⟨(W.vt n).toArray⟩:ByteArray)=V3 at HV3 hT t3;obtain ⟨K,hK⟩:∃ K:ByteArray,K=⟨#[UInt8.ofNat kind.toNat,UInt8.ofNat who.toNat]⟩:=⟨_,rfl⟩;rw [<-hK] at hT t0;generalize UInt8.ofNat kind.toNat=k1 at hk hK;generalize UInt8.ofNat who.toNat=k2 at hw hK
  have HX:∀ x:World,(convert 144 9 (.slice (some ⟨x.heap.size,0,none⟩) 2 2)).run Tryz.prog (x.alloc (.cells #[.int .u8 (k1.toNat:Int),.int .u8 (k2.toNat:Int)] 5)) = .ok (.string K) (x.alloc (.cells #[.int .u8 (k1.toNat:Int),.int .u8 (k2.toNat:Int)] 5)):=fun x=>by
   rw [hK];exact qnl x _ k1 k2 (Later.refl _)
  clear hK;rw [hT];have q1:¬ (9223372036854775807<K.size+V1.size):=by omega
  have q2:¬ (9223372036854775807<K.size+V1.size+V2.size):=by omega
  have q3:¬ (9223372036854775807<K.size+V1.size+V2.size+V3.size):=by omega
  clear hT v1 v2 v3 t0 t1 t2 t3 n1 n2 n3 n4 n5 n6 s1 s2;go_enter Tryz.func70,Tryz.ntmps70
  go_wp2_with (first
   | (go_at_call 63;refine (HOK.1 _).mono ?_;rintro e w1 ⟨rfl,hb1⟩;obtain ⟨c0,c1,c2,c3,c4,hB⟩:=HN.1.below hb1;clear hb1;dsimp only at c0 c1 c2 c3 c4;have tokA:True:=trivial)
   | (go_at_call 126;clear tokA;refine (HV1.1 _).mono ?_;rintro r w1 ⟨rfl,hb1⟩;obtain ⟨c0,c1,c2,c3,c4,hB⟩:=EC.below (e:=⟨kind,path,dest,n,who⟩) ⟨c0,c1,c2,c3,c4,hB⟩ hb1;clear hb1;dsimp only at c0 c1 c2 c3 c4)
   | (go_at_call 126;refine (HV2.1 _).mono ?_;rintro r w1 ⟨rfl,hb1⟩;obtain ⟨c0,c1,c2,c3,c4,hB⟩:=EC.below (e:=⟨kind,path,dest,n,who⟩) ⟨c0,c1,c2,c3,c4,hB⟩ hb1;clear hb1;dsimp only at c0 c1 c2 c3 c4)
   | (go_at_call 127;refine (HV3.1 _).mono ?_;rintro r w1 ⟨rfl,hb1⟩;obtain ⟨c0,c1,c2,c3,c4,hB⟩:=EC.below (e:=⟨kind,path,dest,n,who⟩) ⟨c0,c1,c2,c3,c4,hB⟩ hb1;clear hb1;dsimp only at c0 c1 c2 c3 c4))
  go_ret2
  exact ⟨rfl,hB.1.alloc hB.1.size _⟩
end
section
open Go.PlainAid (bt)
theorem qnm (a b:ByteArray):lb (a++b)=lb a++lb b:=ByteArray.toList_data_append
theorem lb_vb (n:Nat):lb (vb n)=W.vt n:=by simp [vb,lb]
theorem lb_size (s:ByteArray):(lb s).length=s.size:=rfl
theorem lb_editT (e:EM):lb (editT e)=UInt8.ofNat e.kind.toNat::UInt8.ofNat e.who.toNat::(W.vt e.path.size++(lb e.path++(W.vt e.dest.size++(lb e.dest++W.vt e.num.toNat)))):=by
 unfold editT;rw [qnm,qnm,qnm,qnm,qnm,lb_vb,lb_vb,lb_vb]
 show [UInt8.ofNat e.kind.toNat,UInt8.ofNat e.who.toNat]++_++_++_++_++_=_
 simp only [List.append_assoc,List.cons_append,List.nil_append]
end
section
variable {e:EM} {T:TM} {w w1:World}
def nmLog:ByteArray:=⟨#[108,111,103]⟩
def logA (e:EM):List AM:=if qaq e then [⟨1,nmLog,qfl (editT e),⟨#[]⟩⟩,⟨2,nmLog,⟨#[]⟩,⟨#[]⟩⟩] else []
theorem qhd (h:qaq e=true):1<=(editT e).size/\(editT e).size<=9000:=by
 obtain ⟨n1,n2,n3,n4,n5,n6⟩:=qft h;obtain ⟨s1,s2⟩:=qlp h;have hs:=congrArg List.length (lb_editT e);simp only [List.length_cons,List.length_append,lb_size] at hs;have v1:=W.vt_len e.path.size;have v2:=W.vt_len e.dest.size;have v3:=W.vt_len e.num.toNat;omega
def LgaPost (e:EM) (w:World) (r:Ending) (w':World):Prop:=
 ∃ v,r = .returned (.tuple #[v,.bool (qaq e)])/\w'.ownsRow w.heap.size 98 4 v (logA e).length (acs (logA e))/\Below w.heap.size w w'
theorem own_lit {B t sz n:Nat} (cs:Array Value) (hb:B<=w.heap.size) (hm:n<=maxLen) (hs:cs.size=n*sz):(w.alloc (.cells cs t)).ownsRow B t sz (.slice (some ⟨w.heap.size,0,none⟩) n n) n cs.toList:=
 ⟨by simpa using hs,.inr ⟨w.heap.size,n,cs,rfl,hb,heap_alloc_new w _,zL,hm,hs,List.take_of_length_le (by simp [hs])⟩⟩
theorem LgaPost.yes (h:qaq e=true) (hb:Below w.heap.size w w1) (F:ByteArray) (hF:F=qfl (editT e)) :
  LgaPost e w (.returned (.tuple #[.slice (some ⟨w1.heap.size,0,none⟩) 2 2,.bool true])) (w1.alloc (.cells #[.int .i64 1,.string ⟨#[108,111,103]⟩,.string F,.string ⟨#[]⟩,.int .i64 2,.string ⟨#[108,111,103]⟩,.string ⟨#[]⟩,.string ⟨#[]⟩] 98)):=by
 have e1:logA e=[⟨1,nmLog,F,⟨#[]⟩⟩,⟨2,nmLog,⟨#[]⟩,⟨#[]⟩⟩]:=by unfold logA;rw [if_pos h,hF]
 refine ⟨_,by rw [h],?_,hb.alloc hb.size _⟩;rw [e1];exact own_lit (t:=98) (sz:=4) #[.int .i64 1,.string ⟨#[108,111,103]⟩,.string F,.string ⟨#[]⟩,.int .i64 2,.string ⟨#[108,111,103]⟩,.string ⟨#[]⟩,.string ⟨#[]⟩] hb.size (by decide) rfl
theorem LgaPost.no {v:Value} (h:qaq e=false) (hb:Below w.heap.size w w1) (ho:w1.ownsRow w.heap.size 98 4 v 0 []):LgaPost e w (.returned (.tuple #[v,.bool false])) w1:=by
 have e1:logA e=[]:=by unfold logA;rw [if_neg (by simp [h])]
 exact ⟨_,by rw [h],by rw [e1];exact ho,hb⟩
theorem frV_nil:frV ⟨#[]⟩ = .tuple #[.string ⟨#[]⟩,.bool false]:=frV_no (by decide)
theorem specLogActs (e:EM) (w:World) (hf:EFit e):Calls Tryz.prog 19 #[ev e] w fun r w'=>LgaPost e w r w':=by
 have HC:=zS (fun W0=>specEditText e W0 hf)
 cases hok:qaq e with
 | false =>
  have HF:=zS (fun W0=>qno ⟨#[]⟩ W0);rw [frV_nil] at HF;simp only [hok,Bool.false_eq_true,if_false] at HC;have HOK:=zS hok;clear hok hf;obtain ⟨kind,path,dest,num,who⟩:=e;dsimp only [ev] at *;go_enter Tryz.func19,Tryz.ntmps19;go_wp2_with (first | (go_at_call 52;refine (HC.1 _).mono ?_;rintro r w1 ⟨rfl,hb1⟩) | (go_at_call 53;refine (HF.1 _).mono ?_;rintro r w2 ⟨rfl,hb2⟩));go_ret2
  have b0:=(Below.refl w.heap.size w).alloc zL (.cells #[.int .i64 kind,.string path,.string dest,.int .i64 num,.int .i64 who] 47);have b1:=b0.trans (hb1.mono b0.size);have b2:=b1.trans (hb2.mono b1.size);exact LgaPost.no HOK.1 (b2.alloc b2.size _) (World.ownsRow_made w2 #[] 0 b2.size (by decide) rfl)
 | true =>
  have HF:=zS (fun W0=>qno (editT e) W0);rw [qro (qhd hok)] at HF;simp only [hok,if_true] at HC;have HOK:=zS hok;obtain ⟨E,hE⟩:∃ E,E=editT e:=⟨_,rfl⟩;obtain ⟨F,hF⟩:∃ F,F=qfl E:=⟨_,rfl⟩;rw [<-hE] at HC HF;rw [<-hF] at HF;have HFE:Sh (F=qfl (editT e)):=⟨by rw [hF,hE]⟩;clear hok hf hE hF;obtain ⟨kind,path,dest,num,who⟩:=e;dsimp only [ev] at *;go_enter Tryz.func19,Tryz.ntmps19;go_wp2_with (first | (go_at_call 52;refine (HC.1 _).mono ?_;rintro r w1 ⟨rfl,hb1⟩) | (go_at_call 53;refine (HF.1 _).mono ?_;rintro r w2 ⟨rfl,hb2⟩));go_ret2
  have b0:=(Below.refl w.heap.size w).alloc zL (.cells #[.int .i64 kind,.string path,.string dest,.int .i64 num,.int .i64 who] 47);have b1:=b0.trans (hb1.mono b0.size);have b2:=b1.trans (hb2.mono b1.size);exact LgaPost.yes HOK.1 b2 F HFE.1
theorem implLogActs (e:EM) (w:World) (ht:SumTab w) (hf:EFit e):Calls Tryz.prog 26 #[ev e] w fun r w'=>LgaPost e w r w':=by
 have HC:=zS (fun W0=>implEditText e W0 hf);have HT:=zS ht
 cases hok:qaq e with
 | false =>
  simp only [hok,Bool.false_eq_true,if_false] at HC;have HOK:=zS hok;clear hok hf ht;obtain ⟨kind,path,dest,num,who⟩:=e;dsimp only [ev] at *;go_enter Tryz.func26,Tryz.ntmps26;go_wp2_with (go_at_call 70;refine (HC.1 _).mono ?_;rintro r w1 ⟨rfl,hb1⟩);go_ret2
  have b0:=(Below.refl w.heap.size w).alloc zL (.cells #[.int .i64 kind,.string path,.string dest,.int .i64 num,.int .i64 who] 47);exact LgaPost.no HOK.1 (b0.trans (hb1.mono b0.size)) (World.ownsRow_nil _ _ _ _)
 | true =>
  have HF:=zS (fun (W0:World) (hb:Below w.heap.size w W0)=>implFrame (editT e) W0 (HT.1.stays hb));rw [qro (qhd hok)] at HF;simp only [hok,if_true] at HC;have HOK:=zS hok;obtain ⟨E,hE⟩:∃ E,E=editT e:=⟨_,rfl⟩;obtain ⟨F,hF⟩:∃ F,F=qfl E:=⟨_,rfl⟩;rw [<-hE] at HC HF;rw [<-hF] at HF;have HFE:Sh (F=qfl (editT e)):=⟨by rw [hF,hE]⟩;clear hok hf hE hF ht HT;obtain ⟨kind,path,dest,num,who⟩:=e;dsimp only [ev] at *;have HB0:=zS ((Below.refl w.heap.size w).alloc zL (.cells #[.int .i64 kind,.string path,.string dest,.int .i64 num,.int .i64 who] 47));go_enter Tryz.func26,Tryz.ntmps26;go_wp2_with (first | (go_at_call 70;refine (HC.1 _).mono ?_;rintro r w1 ⟨rfl,hb1⟩;have HB1:=zS (HB0.1.trans (hb1.mono HB0.1.size))) | (go_at_call 71;refine (HF.1 _ HB1.1).mono ?_;rintro r w2 ⟨rfl,hb2⟩));go_ret2
  exact LgaPost.yes HOK.1 (HB1.1.trans (hb2.mono HB1.1.size)) F HFE.1
theorem qdv {x:Int} (h:0<=x/\x<=1000000):(Lit.int .i64 x).wf=true:=by
 have h1:IntKind.i64.min<=0:=by decide
 have h2:1000000<=IntKind.i64.max:=by decide
 unfold Lit.wf;simp;omega
theorem qga (h:qae T=true) {n:NM} (hn:n ∈ T.nodes):0<=n.id/\n.id<=1000000:=by
 have hp:=TP.of h;have:=hp.pos hn;have:=hp.lt n hn;have:=hp.nx;omega
theorem qgr (h:qae T=true):NInt T.nodes:=by
 have hp:=TP.of h;intro n hn;refine ⟨qdv (qga h hn),?_⟩
 by_cases e:n.id=1
 ·rw [hp.one hn e];exact qdv (by omega)
 ·obtain ⟨_,⟨p,hpm,ep,_⟩,_⟩:=hp.rest n hn e
  rw [<-ep];exact qdv (qga h hpm)
theorem MB.less {w0 w:World} {p:Nat × List Value} {L:List (Nat × List Value)} (h:MB w0 w (p::L)):MB w0 w L:=⟨fun q hq=>h.box q (List.mem_cons_of_mem _ hq),(List.pairwise_cons.1 h.dist).2,h.bel⟩
end
section
variable {x:NM} {k:Nat} {T:TM}
def Smx (n:NM):Prop:=(0<=n.id/\n.id<=1000000)/\(0<=n.parent/\n.parent<=1000000)/\n.name.size+n.pieces.length<=2000
theorem qmd (h:qae T=true) {n:NM} (hn:n ∈ T.nodes):Smx n:=by
 have hp:=TP.of h;obtain ⟨i,hi,e⟩:=List.getElem_of_mem hn;have h1:=qbr h i hi;rw [e] at h1;refine ⟨qga h hn,?_,by omega⟩
 by_cases e1:n.id=1
 ·rw [hp.one hn e1];omega
 ·obtain ⟨_,⟨q,hq,eq,_⟩,_⟩:=hp.rest n hn e1
  rw [<-eq];exact qga h hq
theorem qme (h:qae T=true) (p:ByteArray):0<=findX T p/\findX T p<=1000000:=by
 by_cases h0:findX T p=0
 ·rw [h0];omega
 ·obtain ⟨_,h2,h3⟩:=qeo h h0
  rw [<-h2];exact qga h h3
theorem spanL_len (S n:Nat) (h:1<=n):(spanL S n).length<=n:=by
 unfold spanL;rw [List.length_append,List.length_replicate,List.length_singleton];have:=Nat.div_le_self (n - 1) S;omega
theorem qkx (s n:Int) (h:n<=1000):(qaw s n).length<=1000:=by
 unfold qaw;split
 ·rename_i q
  have:=spanL_len (qbl s) n.toNat (by omega);omega
 ·simp
theorem set_small (h:∀ n ∈ T.nodes,Smx n) (hx:Smx x):∀ n ∈ (setN T k x).nodes,Smx n:=by
 intro n hn;rcases List.mem_or_eq_of_mem_set hn with q | q
 ·exact h n q
 ·rw [q];exact hx
theorem qow {p:ByteArray} (ht:qae T=true) (hx:x.pieces=[]):∀ n ∈ (addT T p x).nodes,Smx n:=by
 intro n hn;unfold addT at hn;rcases List.mem_append.1 hn with q | q
 ·exact qmd ht q
 ·rw [List.mem_singleton.1 q]
  have h1:=qjh ht;have h2:=(qbi ht).2.2;have h3:=qbf p;refine ⟨⟨by show (0:Int)<=T.next;omega,by show T.next<=1000000;omega⟩,qme ht (qab p).1,?_⟩
  show (qab p).2.1.size+x.pieces.length<=2000
  rw [hx];simp;omega
theorem ch_small {e:EM} {g:Int} (h:qae T=true) (hE:qaq e=true) (hk:k<T.nodes.length):(∀ n ∈ (chT T e k g).nodes,Smx n)/\(chT T e k g).nodes.length<=15:=by
 have ha:∀ n ∈ T.nodes,Smx n:=fun n hn=>qmd h hn;have hl:=(qbi h).2.1;have hx:=ha _ (List.getElem_mem hk);rw [<-qev hk] at hx;have hp:=qbr h k hk;rw [<-qev hk] at hp;have hset:∀ x,Smx x->(∀ n ∈ (setN T k x).nodes,Smx n)/\(setN T k x).nodes.length<=15:=fun x q=>⟨set_small ha q,by unfold setN;rw [List.length_set];omega⟩;unfold chT;split
 ·exact ⟨qow h rfl,by unfold addT;simp;omega⟩
 split
 ·exact ⟨qow h rfl,by unfold addT;simp;omega⟩
 split
 ·exact hset _ ⟨hx.1,qme h (qab e.dest).1,by have h3:=qbf e.dest;show (qab e.dest).2.1.size+(ndAt T k).pieces.length<=2000;omega⟩
 split
 ·refine ⟨fun n hn=>ha n (List.mem_filter.1 hn).1,?_⟩
  have:(dropT T (ndAt T k).id).nodes.length<=T.nodes.length:=List.length_filter_le _ _;omega
 split
 ·exact hset _ hx
 split
 ·exact hset _ hx
 split
 ·rename_i k7
  have hn7:=(qfq hE (by omega)).2.2.2.2.2.1 k7;refine hset _ ⟨hx.1,hx.2.1,?_⟩;have h3:=qkx (ndAt T k).schema e.num (by omega)
  show (ndAt T k).name.size+((ndAt T k).pieces++newP g (qaw (ndAt T k).schema e.num)).length<=2000
  rw [List.length_append,qff];omega
 split
 ·exact hset _ hx
 split
 ·exact hset _ hx
 ·exact ⟨ha,by omega⟩
theorem small_fit (h:∀ n ∈ T.nodes,Smx n) (hl:T.nodes.length<=15):NFit T/\NInt T.nodes:=by
 refine ⟨?_,fun n hn=>⟨qdv (h n hn).1,qdv (h n hn).2.1⟩⟩;have:=qrf T.nodes 2000 (fun n hn=>(h n hn).2.2);unfold NFit;have h2:2000*T.nodes.length<=2000*15:=Nat.mul_le_mul_left _ hl;omega
theorem span_ne {s n:Int} (hs:1<=s/\s<=3) (h1:1<=n) (h2:n<=1000):qaw s n ≠ []:=by
 unfold qaw;rw [if_pos ⟨by unfold schOk;simp;omega,h1,h2⟩];unfold spanL;simp
end
end Go.Proofs.YtackbhpgdohimaaGreatDoor
