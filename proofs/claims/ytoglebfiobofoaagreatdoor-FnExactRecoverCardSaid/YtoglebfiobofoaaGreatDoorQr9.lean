/- Texts of ours, laid one behind the other: LkG, LkH, LkI, LkJ, FpA, LkK, LkL, LkM, CtA, LkO, LawTre, LawTrw, LkT, LawFnd9. -/
import Derived.Test.YtoglebfiobofoaaGreatDoorQr7
import Derived.Test.YtoglebfiobofoaaGreatDoorQr8
import Derived.Test.YtoglebfiobofoaaGreatDoorQr2
import Derived.Test.YtoglebfiobofoaaGreatDoorQr5
import Derived.Test.YtoglebfiobofoaaGreatDoorQr3
import Derived.Test.YtoglebfiobofoaaGreatDoorQrCpB
import Derived.Test.YtoglebfiobofoaaGreatDoorQr4
import Derived.BigQuiet
import Derived.Sort.OwnSorted
import Derived.Sort.KeysCollected
import Derived.Laws.IdiomRangeMap
/- LkG: . -/
namespace Go.Proofs.YtoglebfiobofoaaGreatDoor
set_option maxRecDepth 100000
set_option maxHeartbeats 16000000
open Go.RowKit Go.Maps BigFrame
attribute [local go_sem ↓] Go.wp_at_zero Go.wp_at_succ
variable {rs:List NR} {k:Nat} {T:TM} {w:World}
theorem implRootOk (id parent:Int) (name:ByteArray) (dir:Bool) (schema quota len writer:Int) (loc:Option Addr) (n cap:Nat) (w:World):Calls Tryz.prog 152 #[.agg #[.int .i64 id,.int .i64 parent,.string name,.bool dir,.int .i64 schema,.int .i64 quota,.int .i64 len,.slice loc n cap,.int .i64 writer]] w fun e w'=>e = .returned (.bool ((id==1)&&(parent==0)&&(name.toList==[])&&dir&&inI schema 1 3))/\Below w.heap.size w w':=by
 obtain ⟨R,hR⟩:∃ R,R=((id==1)&&(parent==0)&&(name.toList==[])&&dir&&inI schema 1 3):=⟨_,rfl⟩
 have HR:=Sh.mk hR
 rw [<-hR]
 clear hR
 go_enter Tryz.func152,Tryz.ntmps152
 go_wp2_with (go_at_call 141;refine (qcq _ _).mono ?_;rintro e w1 ⟨rfl,rfl⟩)
 all_goals
  go_ret
  exact ⟨by rw [HR.1];simp [*],(Below.refl _ _).alloc (Nat.le_refl _) _⟩
theorem implDirOk (id parent:Int) (name:ByteArray) (dir:Bool) (schema quota len writer:Int) (loc:Option Addr) (n cap:Nat) (w:World):Calls Tryz.prog 176 #[.agg #[.int .i64 id,.int .i64 parent,.string name,.bool dir,.int .i64 schema,.int .i64 quota,.int .i64 len,.slice loc n cap,.int .i64 writer]] w fun e w'=>e = .returned (.bool (((schema==0)||inI schema 1 3)&&decide (0<=quota)&&decide (quota<=1000)&&(len==0)&&((n:Int)==0)&&(writer==0)))/\Below w.heap.size w w':=by
 obtain ⟨R,hR⟩:∃ R,R=(((schema==0)||inI schema 1 3)&&decide (0<=quota)&&decide (quota<=1000)&&(len==0)&&((n:Int)==0)&&(writer==0)):=⟨_,rfl⟩
 have HR:=Sh.mk hR
 rw [<-hR]
 clear hR
 go_enter Tryz.func176,Tryz.ntmps176
 go_wp2_with (go_at_call 141;refine (qcq _ _).mono ?_;rintro e w1 ⟨rfl,rfl⟩)
 all_goals
  go_ret
  exact ⟨by rw [HR.1];first | (simp [*];done) | (simp [*];omega),(Below.refl _ _).alloc (Nat.le_refl _) _⟩
def fileQ (schema quota len writer:Int) (ps:List PM):Bool:=inI schema 1 3&&(quota==0)&&inI writer 0 9&&decide (ps.length<=40)&&ps.all (qay schema)&&(sumP ps==len)&&decide (sumP ps<=1000)
theorem fileQ_piece {schema quota len writer:Int} {ps:List PM} (hk:k<ps.length) (h:qay schema ps[k]=false):fileQ schema quota len writer ps=false:=by
 unfold fileQ
 have:ps.all (qay schema)=false:=Bool.eq_false_iff.2 fun hc=>by rw [List.all_eq_true.1 hc _ (List.getElem_mem hk)] at h;cases h
 rw [this]
 simp
theorem implFileOk (id parent:Int) (name:ByteArray) (dir:Bool) (schema quota len writer:Int) (loc:Option Addr) (ps:List PM) (cap:Nat) (w:World) {lo hi:Nat} (hp:RRow w loc (pcs ps) lo hi) (hl:ps.length<=1048576) :
  Calls Tryz.prog 177 #[.agg #[.int .i64 id,.int .i64 parent,.string name,.bool dir,.int .i64 schema,.int .i64 quota,.int .i64 len,.slice loc ps.length cap,.int .i64 writer]] w fun e w'=>e = .returned (.bool (fileQ schema quota len writer ps))/\Below w.heap.size w w':=by
 obtain ⟨R,hR⟩:∃ R,R=fileQ schema quota len writer ps:=⟨_,rfl⟩
 have HR:=Sh.mk hR
 rw [<-hR]
 obtain ⟨n,hn⟩:∃ n,n=ps.length:=⟨_,rfl⟩
 rw [<-hn] at hl ⊢
 have HN:=Sh.mk hn
 have HP:=Sh.mk hp
 clear hR hn hp
 by_cases hh:inI schema 1 3=true/\quota=0/\0<=writer/\writer<=9/\n<=40
 ·obtain ⟨h1,rfl,h3,h4,h5⟩:=hh
  have h5':¬ (40:Int)<(n:Int):=by omega
  go_enter Tryz.func177,Tryz.ntmps177
  go_upto_region 3 with (go_at_call 141;refine (qcq _ _).mono ?_;rintro e w1 ⟨rfl,rfl⟩)
  refine qaa (fun W=>Below w.heap.size w W/\WCells W w.heap.size [.int .i64 id,.int .i64 parent,.string name,.bool dir,.int .i64 schema,.int .i64 0,.int .i64 len,.slice loc n cap,.int .i64 writer]) ⟨(Below.refl _ _).alloc (Nat.le_refl _) _,qad w #[.int .i64 id,.int .i64 parent,.string name,.bool dir,.int .i64 schema,.int .i64 0,.int .i64 len,.slice loc n cap,.int .i64 writer] 87⟩ ?_
  intro W hW
  have HW:=Sh.mk hW
  have c7:=(hW.2.2 7 _ rfl).1
  clear hW
  go_wp2_with fail
  go_loopw [3,34] (fun sm i wr=>∃ (k:Nat),sm = .int .i64 (sumP (ps.take k))/\i = .int .i64 k/\k<=n/\Sh (∀ j (hj:j<ps.length),j<k->qay schema ps[j]=true)/\Sh (Below w.heap.size w wr/\WCells wr w.heap.size [.int .i64 id,.int .i64 parent,.string name,.bool dir,.int .i64 schema,.int .i64 0,.int .i64 len,.slice loc n cap,.int .i64 writer])) (fun _ i _=>n - (intOf i).toNat)
  case atStart=>exact ⟨0,rfl,rfl,Nat.zero_le _,⟨fun _ _ h=>absurd h (Nat.not_lt_zero _)⟩,HW⟩
  case round =>
   clear HW c7
   obtain ⟨k,rfl,rfl,hk,hall,hW⟩:=hrel
   have hsum:0<=sumP (ps.take k)/\sumP (ps.take k)<=32*40:=by
    have:=qsl (s:=schema) (ps:=ps.take k) (fun p hp=>by
     obtain ⟨j,hj,rfl⟩:=List.mem_iff_getElem.1 hp
     simp only [List.getElem_take]
     simp only [List.length_take] at hj
     exact hall.1 j (by omega) (by omega))
    have hlt:(ps.take k).length<=40:=by simp;omega
    omega
   have c4:=(hW.1.2.2 4 _ rfl).1
   have c6:=(hW.1.2.2 6 _ rfl).1
   have lw:=hW.1.2.1
   by_cases hlt:k<n
   ·have hkp:k<ps.length:=by rw [<-HN.1];exact hlt
    obtain ⟨b,off,rfl,lb,hc⟩:=qon HP.1 (by omega)
    obtain ⟨p0,p1⟩:=hc k hkp
    rw [<-hW.1.1.cell (p:=⟨b,off+k*2,none⟩) lb] at p0
    rw [<-hW.1.1.cell (p:=⟨b,off+k*2+1,none⟩) lb] at p1
    have hst:=qou ps k hkp
    obtain ⟨q,hq⟩:∃ q,q=ps[k]:=⟨_,rfl⟩
    rw [<-hq] at p0 p1 hst
    have HQ:=Sh.mk hq
    have HST:=Sh.mk hst
    have lb':b<wr.heap.size:=Nat.lt_of_lt_of_le lb hW.1.1.size
    have k0:(0:Int)<=(k:Int):=by omega
    have k1:(k:Int)<(n:Int):=by omega
    have HSZ:=Sh.mk (fun W=>qqw schema W)
    have hgb:=qcf schema
    obtain ⟨sm,hsm⟩:∃ sm,sm=sumP (ps.take k):=⟨_,rfl⟩
    rw [<-hsm] at hsum HST ⊢
    have HSM:=Sh.mk hsm
    have hpk:qay schema q=(decide (1<=q.group)&&decide (q.group<=100000)&&(decide (1<=q.len)&&decide (q.len<=(qbh schema:Nat)))):=rfl
    have HPK:=Sh.mk hpk
    obtain ⟨gn,hgn⟩:∃ gn,gn=qbh schema:=⟨_,rfl⟩
    rw [<-hgn] at HSZ HPK hgb
    obtain ⟨gr,ln⟩:=q
    have HBW:Sh (∀ W,Below wr.heap.size wr W->Below w.heap.size w W):=⟨fun W hb=>hW.1.1.trans (hb.mono hW.1.1.size)⟩
    clear hc hq hst hsm hpk hgn
    have HNO:Sh (qay schema ⟨gr,ln⟩=false->Ending.returned (.bool false) = .returned (.bool R)):=⟨fun h=>by rw [HR.1,fileQ_piece hkp (by rw [<-HQ.1];exact h)]⟩
    dsimp only at p0 p1 HST HPK
    have HQQ:=HQ
    go_upto_region 7 with fail
    by_cases a1:gr<1
    ·go_quiet (first | (go_at_call 186;exact Calls.quiet_of_same (HSZ.1 _)))
     go_wp2_with fail
     go_ret
     exact ⟨HNO.1 (by rw [HPK.1];simp;omega),HBW.1 _ (((Below.refl _ _).alloc (Nat.le_refl _) _).trans (Below.mono (B:=wr.heap.size) ⟨rfl,rfl,rfl,Nat.le_refl _,fun _ _=>rfl⟩ (Nat.le_refl _)))⟩
    ·by_cases a2:100000<gr
     ·go_quiet (first | (go_at_call 186;exact Calls.quiet_of_same (HSZ.1 _)))
      go_wp2_with fail
      go_ret
      exact ⟨HNO.1 (by rw [HPK.1];simp;omega),HBW.1 _ (((Below.refl _ _).alloc (Nat.le_refl _) _).trans (Below.mono (B:=wr.heap.size) ⟨rfl,rfl,rfl,Nat.le_refl _,fun _ _=>rfl⟩ (Nat.le_refl _)))⟩
     ·by_cases a3:ln<1
      ·go_quiet (first | (go_at_call 186;exact Calls.quiet_of_same (HSZ.1 _)))
       go_wp2_with fail
       go_ret
       exact ⟨HNO.1 (by rw [HPK.1];simp;omega),HBW.1 _ (((Below.refl _ _).alloc (Nat.le_refl _) _).trans (Below.mono (B:=wr.heap.size) ⟨rfl,rfl,rfl,Nat.le_refl _,fun _ _=>rfl⟩ (Nat.le_refl _)))⟩
      ·by_cases a4:(gn:Int)<ln
       ·go_quiet (first | (go_at_call 186;exact Calls.quiet_of_same (HSZ.1 _)))
        go_wp2_with fail
        go_ret
        exact ⟨HNO.1 (by rw [HPK.1];simp;omega),HBW.1 _ (((Below.refl _ _).alloc (Nat.le_refl _) _).trans (Below.mono (B:=wr.heap.size) ⟨rfl,rfl,rfl,Nat.le_refl _,fun _ _=>rfl⟩ (Nat.le_refl _)))⟩
       ·go_quiet (first | (go_at_call 186;exact Calls.quiet_of_same (HSZ.1 _)))
        go_wp2_with fail
        go_roundw
        case rel =>
         have hpo:qay schema ⟨gr,ln⟩=true:=by rw [HPK.1];simp;omega
         have hbn:Below wr.heap.size wr ((wr.alloc (.cells #[.int .i64 gr,.int .i64 ln] 138)).drewN nq):=((Below.refl _ _).alloc (Nat.le_refl _) _).trans (Below.mono (B:=wr.heap.size) ⟨rfl,rfl,rfl,Nat.le_refl _,fun _ _=>rfl⟩ (Nat.le_refl _))
         refine ⟨k+1,?_,by go_num,by omega,⟨fun j hj hjk=>?_⟩,⟨HBW.1 _ hbn,hW.1.2.grow hbn⟩⟩
         ·rw [HST.1]
         ·rcases Nat.lt_succ_iff_lt_or_eq.1 hjk with h | h
          ·exact hall.1 j hj h
          ·subst h
           rw [<-HQ.1]
           exact hpo
        case measure=>simp [intOf];omega
   ·have hlt':¬ (k:Int)<(n:Int):=by omega
    obtain rfl:k=n:=by omega
    have hts:sumP (ps.take k)=sumP ps:=by rw [HN.1,List.take_length]
    have hallp:ps.all (qay schema)=true:=List.all_eq_true.2 fun p hp=>by
     obtain ⟨j,hj,rfl⟩:=List.mem_iff_getElem.1 hp
     exact hall.1 j hj (by rw [HN.1];exact hj)
    have hRR:R=((sumP ps==len)&&decide (sumP ps<=1000)):=by
     rw [HR.1]
     unfold fileQ
     rw [hallp,h1,show inI writer 0 9=true from inI_iff.2 ⟨h3,h4⟩,decide_eq_true (by rw [<-HN.1];exact h5)]
     simp
    have HRR:=Sh.mk hRR
    rw [hts] at hsum ⊢
    generalize sumP ps=sm at *
    clear hallp hRR hts
    go_wp2_with fail
    all_goals
     go_ret
     refine ⟨?_,hW.1.1⟩
     rw [HRR.1]
     first | (simp [*];done) | (simp [*];intros;omega)
 ·have HH:=Sh.mk hh
  have hRF:R=false:=by
   rw [HR.1]
   refine Bool.eq_false_iff.2 fun hc=>hh ?_
   unfold fileQ at hc
   simp only [Bool.and_eq_true,beq_iff_eq,decide_eq_true_eq] at hc
   obtain ⟨⟨⟨⟨⟨⟨a1,a2⟩,a3⟩,a4⟩,_⟩,_⟩,_⟩:=hc
   exact ⟨a1,a2,(inI_iff.1 a3).1,(inI_iff.1 a3).2,by rw [HN.1];exact a4⟩
  rw [hRF]
  clear hh hRF
  go_enter Tryz.func177,Tryz.ntmps177
  go_upto_region 3 with (go_at_call 141;refine (qcq _ _).mono ?_;rintro e w1 ⟨rfl,rfl⟩)
  all_goals first
   | (go_ret;exact ⟨rfl,(Below.refl _ _).alloc (Nat.le_refl _) _⟩)
   | exact absurd ⟨by assumption,by omega,by omega,by omega,by omega⟩ HH.1
theorem dirQ_is (n:NM):(((n.schema==0)||inI n.schema 1 3)&&decide (0<=n.quota)&&decide (n.quota<=1000)&&(n.len==0)&&((n.pieces.length:Int)==0)&&(n.writer==0))=dirOk n:=by
 unfold dirOk
 have e1:((n.schema==0)||inI n.schema 1 3)=inI n.schema 0 3:=by
  unfold inI
  rw [Bool.eq_iff_iff]
  simp
  omega
 have e2:inI n.quota 0 1000=(decide (0<=n.quota)&&decide (n.quota<=1000)):=rfl
 have e3:((n.pieces.length:Int)==0)=decide (n.pieces.length=0):=by
  rw [Bool.eq_iff_iff]
  simp
 rw [e1,e2,e3]
 cases inI n.schema 0 3 <;> cases decide (0<=n.quota) <;> cases decide (n.quota<=1000) <;> rfl
theorem fileQ_is (n:NM):fileQ n.schema n.quota n.len n.writer n.pieces=fileOk n:=by
 unfold fileQ fileOk
 cases inI n.schema 1 3 <;> cases (n.quota==0) <;> cases inI n.writer 0 9 <;> cases decide (n.pieces.length<=40) <;> rfl
theorem rootQ_is (n:NM):((n.id==1)&&(n.parent==0)&&(n.name.toList==[])&&n.dir&&inI n.schema 1 3)=rootB n:=by
 unfold rootB
 have:(n.name.toList==[])=decide (n.name=⟨#[]⟩):=by
  rw [Bool.eq_iff_iff]
  simp only [beq_iff_eq,decide_eq_true_eq]
  constructor
  ·intro h
   rw [Go.ByteArray.toList_eq] at h
   exact ByteArray.ext (Array.toList_inj.1 h)
  ·intro h
   rw [h,Go.ByteArray.toList_eq]
 rw [this]
theorem implNodeOk_any (id parent:Int) (name:ByteArray) (dir:Bool) (schema quota len writer:Int) (loc:Option Addr) (ps:List PM) (cap:Nat) (w:World) {lo hi:Nat} (hp:RRow w loc (pcs ps) lo hi) (hl:ps.length<=1048576) :
  Calls Tryz.prog 154 #[.agg #[.int .i64 id,.int .i64 parent,.string name,.bool dir,.int .i64 schema,.int .i64 quota,.int .i64 len,.slice loc ps.length cap,.int .i64 writer]] w fun e w'=>e = .returned (.bool (if dir then dirOk ⟨id,parent,name,dir,schema,quota,len,ps,writer⟩ else fileOk ⟨id,parent,name,dir,schema,quota,len,ps,writer⟩))/\Below w.heap.size w w':=by
 have h1:=fun W=>implDirOk id parent name dir schema quota len writer loc ps.length cap W
 have h2:=fun W (hb:Below w.heap.size w W)=>implFileOk id parent name dir schema quota len writer loc ps cap W (hp.below hb) hl
 rw [<-dirQ_is,<-fileQ_is]
 dsimp only
 generalize fileQ schema quota len writer ps=f at *
 obtain ⟨n,hn⟩:∃ n,n=ps.length:=⟨_,rfl⟩
 rw [<-hn] at h1 h2 ⊢
 generalize ((schema==0||inI schema 1 3)&&decide (0<=quota)&&decide (quota<=1000)&&len==0&&(n:Int)==0&&writer==0)=d at *
 have H1:=Sh.mk h1
 have H2:=Sh.mk h2
 clear h1 h2 hn hp hl
 cases dir with
 | true =>
  go_enter Tryz.func154,Tryz.ntmps154
  go_wp2_with fail
  refine (H1.1 _).mono ?_
  rintro e w1 ⟨rfl,hb⟩
  go_wp2_with fail
  go_ret
  exact ⟨rfl,((Below.refl _ _).alloc (Nat.le_refl _) _).trans (hb.mono (by simp))⟩
 | false =>
  go_enter Tryz.func154,Tryz.ntmps154
  go_wp2_with fail
  refine (H2.1 _ ((Below.refl _ _).alloc (Nat.le_refl _) _)).mono ?_
  rintro e w1 ⟨rfl,hb⟩
  go_wp2_with fail
  go_ret
  exact ⟨rfl,((Below.refl _ _).alloc (Nat.le_refl _) _).trans (hb.mono (by simp))⟩
theorem implNodeOk (r:NR) (w:World) {lo hi:Nat} (hp:RRow w r.loc (pcs r.nd.pieces) lo hi) (hl:r.nd.pieces.length<=1048576):Calls Tryz.prog 154 #[nv r] w fun e w'=>e = .returned (.bool (kindB r.nd))/\Below w.heap.size w w':=
 implNodeOk_any r.nd.id r.nd.parent r.nd.name r.nd.dir r.nd.schema r.nd.quota r.nd.len r.nd.writer r.loc r.nd.pieces r.cap w hp hl
def IdsTo (T:TM) (k:Nat):Prop:=∀ j,j<k->(T.nodes.getD j default).id<T.next/\(j=0\/(T.nodes.getD (j - 1) default).id<(T.nodes.getD j default).id)
theorem ids_yes (h:T.next<=100000) (hk:IdsTo T T.nodes.length):idsB T=true:=by
 unfold idsB
 rw [decide_eq_true h]
 simp only [Bool.true_and]
 refine List.all_eq_true.2 fun i hi=>?_
 obtain ⟨h1,h2⟩:=hk i (by simpa using hi)
 rw [decide_eq_true h1]
 rcases h2 with e | e
 ·simp [e]
 ·rw [decide_eq_true e];simp
theorem qsw (hk:k<T.nodes.length) (h:¬ ((T.nodes.getD k default).id<T.next/\(k=0\/(T.nodes.getD (k - 1) default).id<(T.nodes.getD k default).id))):idsB T=false:=by
 refine Bool.eq_false_iff.2 fun hc=>h ?_
 unfold idsB at hc
 simp only [Bool.and_eq_true,List.all_eq_true,List.mem_range,Bool.or_eq_true,decide_eq_true_eq] at hc
 exact hc.2 k hk
theorem ids_next (h:¬ T.next<=100000):idsB T=false:=by
 unfold idsB
 rw [decide_eq_false h]
 simp
theorem implIdsOk {v:Value} {lo hi:Nat} (h:TSee w v T lo hi) (hf:NFit T):Calls Tryz.prog 151 #[v] w fun e w'=>e = .returned (.bool (idsB T))/\Below w.heap.size w w':=by
 obtain ⟨a,cap,rs,rfl,hr,hm⟩:=h
 have hl:rs.length<=1048576:=by unfold NFit at hf;rw [<-hr,qaf] at hf;omega
 obtain ⟨R,hR⟩:∃ R,R=idsB T:=⟨_,rfl⟩
 rw [<-hR]
 have HR:=Sh.mk hR
 have hlen:rs.length=T.nodes.length:=by rw [<-hr,qaf]
 have hget:∀ j (hj:j<rs.length),T.nodes.getD j default=rs[j].nd:=fun j hj=>by
  rw [<-hr,getD_in (by rw [qaf];exact hj)]
  simp [nds]
 have HG:=Sh.mk hget
 obtain ⟨n,hn⟩:∃ n,n=rs.length:=⟨_,rfl⟩
 rw [<-hn] at hl hlen ⊢
 have HL:=Sh.mk hlen
 have HN:=Sh.mk hn
 have HM:=Sh.mk hm
 obtain ⟨nx,hnx⟩:∃ nx,nx=T.next:=⟨_,rfl⟩
 rw [<-hnx]
 have HX:=Sh.mk hnx
 clear hR hr hm hf hlen hget hn hnx
 by_cases h1:nx<=100000
 ·go_enter Tryz.func151,Tryz.ntmps151
  go_upto_region 3 with fail
  refine qaa (fun W=>BX w W a n cap nx) (BX.new w a n cap nx 42) ?_
  intro W hg
  have HW:=Sh.mk hg
  have x0:=(hg.box.2 0 _ rfl).1
  clear hg
  go_wp2_with fail
  go_loopw [11] (fun i wr=>∃ (k:Nat),i = .int .i64 k/\k<=n/\Sh (IdsTo T k)/\Sh (BX w wr a n cap nx)) (fun i _=>n - (intOf i).toNat)
  case atStart=>exact ⟨0,rfl,Nat.zero_le _,⟨fun _ h=>absurd h (Nat.not_lt_zero _)⟩,HW⟩
  case round =>
   clear HW x0
   obtain ⟨k,rfl,hk,hto,hW⟩:=hrel
   have x0:=(hW.1.box.2 0 _ rfl).1
   have x1:=(hW.1.box.2 1 _ rfl).1
   have lw:=hW.1.box.1
   by_cases hlt:k<n
   ·have hkr:k<rs.length:=by rw [<-HN.1];exact hlt
    obtain ⟨b,off,rfl,lb,hc⟩:=TR.nat HM.1 (by omega)
    have hnk:=(hc k hkr).below hW.1.bel lb
    have hge:=HG.1 k hkr
    obtain ⟨r,hr⟩:∃ r,r=rs[k]:=⟨_,rfl⟩
    rw [<-hr] at hnk hge
    have HGE:=Sh.mk hge
    obtain ⟨c0,c1,c2,c3,c4,c5,c6,c7,c8⟩:=hnk
    have lb':b<wr.heap.size:=Nat.lt_of_lt_of_le lb hW.1.bel.size
    have k0:(0:Int)<=(k:Int):=by omega
    have k1:(k:Int)<(n:Int):=by omega
    have HBN:Sh (∀ q,BX w ((wr.alloc (.cells #[.int .i64 r.nd.id,.int .i64 r.nd.parent,.string r.nd.name,.bool r.nd.dir,.int .i64 r.nd.schema,.int .i64 r.nd.quota,.int .i64 r.nd.len,.slice r.loc r.nd.pieces.length r.cap,.int .i64 r.nd.writer] 87)).drewN q) (some ⟨b,off,none⟩) n cap nx):=⟨fun q=>hW.1.below (((Below.refl _ _).alloc (Nat.le_refl _) _).trans (Below.mono (B:=wr.heap.size) ⟨rfl,rfl,rfl,Nat.le_refl _,fun _ _=>rfl⟩ (Nat.le_refl _)))⟩
    have hpr:∀ (hkp:0<k),wr.cell? ⟨b,off+(k - 1)*9,none⟩=some (.int .i64 (T.nodes.getD (k - 1) default).id):=fun hkp=>by
     rw [HG.1 (k - 1) (by omega)]
     exact ((hc (k - 1) (by omega)).below hW.1.bel lb).1
    have HPR:=Sh.mk hpr
    clear hc hr hge hpr
    obtain ⟨pid,hpid⟩:∃ p,p=(T.nodes.getD (k - 1) default).id:=⟨_,rfl⟩
    rw [<-hpid] at HPR
    have HPI:=Sh.mk hpid
    clear hpid
    obtain ⟨id,hid⟩:∃ p,p=r.nd.id:=⟨_,rfl⟩
    rw [<-hid] at c0 HBN
    have HID:=Sh.mk hid
    clear hid
    by_cases a1:nx<=id
    ·have HF:Sh (R=false):=⟨by rw [HR.1];exact qsw (by rw [<-HL.1];exact hlt) (fun hc=>by rw [HGE.1,<-HID.1,<-HX.1] at hc;omega)⟩
     go_upto_region 6 with fail
     go_quiet (fail)
     go_wp2_with fail
     go_ret
     exact ⟨by rw [HF.1];rfl,(HBN.1 _).bel⟩
    ·by_cases a2:0<k
     ·have cp:=HPR.1 a2
      have hk1:(k:Int) - 1=((k - 1:Nat):Int):=by omega
      have hk2:(0:Int)<=((k - 1:Nat):Int):=by omega
      have hk3:((k - 1:Nat):Int)<(n:Int):=by omega
      have hkp:(0:Int)<(k:Int):=by omega
      by_cases a3:id<=pid
      ·have HF:Sh (R=false):=⟨by rw [HR.1];exact qsw (by rw [<-HL.1];exact hlt) (fun hc=>by rw [HGE.1,<-HID.1,<-HPI.1] at hc;omega)⟩
       go_upto_region 6 with fail
       go_quiet (fail)
       go_wp2_with fail
       go_ret
       exact ⟨by rw [HF.1];rfl,(HBN.1 _).bel⟩
      ·go_upto_region 6 with fail
       go_quiet (fail)
       go_wp2_with fail
       go_roundw
       case rel =>
        refine ⟨k+1,by go_num,by omega,⟨fun j hj=>?_⟩,⟨HBN.1 _⟩⟩
        rcases Nat.lt_succ_iff_lt_or_eq.1 hj with h | h
        ·exact hto.1 j h
        ·subst h
         rw [HGE.1,<-HID.1,<-HPI.1,<-HX.1]
         exact ⟨by omega,.inr (by omega)⟩
       case measure=>simp [intOf];omega
     ·have hkn:decide ((0:Int)<(k:Int))=false:=by simp;omega
      have hkn':¬ (0:Int)<(k:Int):=by omega
      go_upto_region 6 with fail
      go_quiet (fail)
      go_wp2_with fail
      go_roundw
      case rel =>
       refine ⟨k+1,by go_num,by omega,⟨fun j hj=>?_⟩,⟨HBN.1 _⟩⟩
       rcases Nat.lt_succ_iff_lt_or_eq.1 hj with h | h
       ·exact hto.1 j h
       ·subst h
        rw [HGE.1,<-HID.1,<-HX.1]
        exact ⟨by omega,.inl (by omega)⟩
      case measure=>simp [intOf];omega
   ·have hlt':¬ (k:Int)<(n:Int):=by omega
    obtain rfl:k=n:=by omega
    have HT:Sh (R=true):=⟨by rw [HR.1];exact ids_yes (by rw [<-HX.1];exact h1) (by rw [<-HL.1];exact hto.1)⟩
    go_wp2_with fail
    go_ret
    exact ⟨by rw [HT.1];rfl,hW.1.bel⟩
 ·have HF:Sh (R=false):=⟨by rw [HR.1];exact ids_next (by rw [<-HX.1];exact h1)⟩
  go_enter Tryz.func151,Tryz.ntmps151
  go_wp2_with fail
  go_ret
  exact ⟨by rw [HF.1];rfl,(Below.refl _ _).alloc (Nat.le_refl _) _⟩
def qrw (T:TM) (k:Nat):Prop:=∀ j,j<k->kindB (T.nodes.getD j default)=true/\(j=0\/qey T.nodes j=true)
theorem prog_yes (h1:inI (T.nodes.length:Int) 1 14=true) (h2:idsB T=true) (h3:rootB (T.nodes.getD 0 default)=true) (h4:qrw T T.nodes.length):qae T=true:=by
 rw [<-qez]
 unfold progB
 rw [h1,h2,h3]
 simp only [Bool.true_and]
 refine List.all_eq_true.2 fun i hi=>?_
 obtain ⟨q1,q2⟩:=h4 i (by simpa using hi)
 rw [q1]
 rcases q2 with e | e
 ·simp [e]
 ·rw [e];simp
theorem qrx (hk:k<T.nodes.length) (h:¬ (kindB (T.nodes.getD k default)=true/\(k=0\/qey T.nodes k=true))):qae T=false:=by
 rw [<-qez]
 refine Bool.eq_false_iff.2 fun hc=>h ?_
 unfold progB at hc
 simp only [Bool.and_eq_true,List.all_eq_true,List.mem_range,Bool.or_eq_true,decide_eq_true_eq] at hc
 exact hc.2 k hk
theorem prog_ids (h:idsB T=false):qae T=false:=by
 rw [<-qez]
 unfold progB
 rw [h]
 simp
theorem prog_root (h:rootB (T.nodes.getD 0 default)=false):qae T=false:=by
 rw [<-qez]
 unfold progB
 rw [h]
 simp
structure BL (w W:World) (a:Option Addr) (n cap:Nat) (nx:Int) (L b1 b2:Nat) (rs:List NR) (G:Nat->Nat) (C:Int->Nat):Prop where
 bx:BX w W a n cap nx
 vr:WCells W L [.map (some b1),.map (some b2)]
 lk:Lk W w.heap.size b1 b2 rs G C (Ab (nds rs) fun _=>false)
theorem BL.below {w W W':World} {a:Option Addr} {n cap L b1 b2:Nat} {nx:Int} {G:Nat->Nat} {C:Int->Nat} (h:BL w W a n cap nx L b1 b2 rs G C) (hb:Below W.heap.size W W'):BL w W' a n cap nx L b1 b2 rs G C:=⟨h.bx.below hb,h.vr.grow hb,h.lk.below hb⟩
theorem Lk.base {B B' b1 b2:Nat} {G:Nat->Nat} {C:Int->Nat} {A:Nat->Option Nat} (h:Lk w B b1 b2 rs G C A) (hB:B'<=B):Lk w B' b1 b2 rs G C A:=by
 obtain ⟨m1,m2,m3,inj,cells,one,lo⟩:=h
 refine ⟨m1,m2,fun p hp=>?_,inj,fun i hi=>⟨(cells i hi).1,Nat.le_trans hB (cells i hi).2⟩,one,by omega⟩
 obtain ⟨q1,q2⟩:=m3 p hp
 exact ⟨by omega,q2⟩
theorem qfp (w:World) (v:Value) (T:TM) (lo hi:Nat) (h:TSee w v T lo hi) (hf:NFit T) (hI:NInt T.nodes):Calls Tryz.prog 119 #[v] w fun e w'=>e = .returned (.bool (qae T))/\Below w.heap.size w w':=by
 have hsee:=h
 obtain ⟨a,cap,rs,rfl,hr,hm⟩:=h
 have hlen:rs.length=T.nodes.length:=by rw [<-hr,qaf]
 have hl:rs.length<=1048576:=by unfold NFit at hf;omega
 have hget:∀ j (hj:j<rs.length),T.nodes.getD j default=rs[j].nd:=fun j hj=>by
  rw [<-hr,getD_in (by rw [qaf];exact hj)]
  simp [nds]
 have hsz:∀ x ∈ nds rs,x.name.size<=1048576/\x.pieces.length<=1048576:=fun x hx=>by
  rw [hr] at hx
  have:=qeo hx
  unfold NFit at hf
  omega
 obtain ⟨R,hR⟩:∃ R,R=qae T:=⟨_,rfl⟩
 rw [<-hR]
 obtain ⟨n,hn⟩:∃ n,n=rs.length:=⟨_,rfl⟩
 obtain ⟨nx,hnx⟩:∃ nx,nx=T.next:=⟨_,rfl⟩
 rw [<-hn] at hl hlen hsee ⊢
 rw [<-hnx] at hsee ⊢
 have hids:=fun W (hb:Below w.heap.size w W)=>implIdsOk (hsee.below hb) hf
 have HR:=Sh.mk hR
 have HG:=Sh.mk hget
 have HL:=Sh.mk hlen
 have HN:=Sh.mk hn
 have HM:=Sh.mk hm
 have HE:=Sh.mk hr
 have HI:=Sh.mk hI
 have HS:=Sh.mk hsz
 have HID:=Sh.mk hids
 clear hR hget hlen hm hr hI hsz hids hsee hnx hf hn
 by_cases h1:n<1
 ·have HF:Sh (R=false):=⟨by rw [HR.1];exact qht (Bool.eq_false_iff.2 fun hc=>by have:=inI_iff.1 hc;have:=HL.1;omega)⟩
  have h1':(n:Int)<1:=by omega
  go_enter Tryz.func119,Tryz.ntmps119
  go_wp2_with fail
  go_ret
  exact ⟨by rw [HF.1];rfl,(Below.refl _ _).alloc (Nat.le_refl _) _⟩
 have h1':¬ (n:Int)<1:=by omega
 by_cases h2:14<n
 ·have HF:Sh (R=false):=⟨by rw [HR.1];exact qht (Bool.eq_false_iff.2 fun hc=>by have:=inI_iff.1 hc;have:=HL.1;omega)⟩
  have h2':(14:Int)<(n:Int):=by omega
  go_enter Tryz.func119,Tryz.ntmps119
  go_wp2_with fail
  go_ret
  exact ⟨by rw [HF.1];rfl,(Below.refl _ _).alloc (Nat.le_refl _) _⟩
 have h2':¬ (14:Int)<(n:Int):=by omega
 cases hid:idsB T with
 | false =>
  rw [hid] at HID
  have HF:Sh (R=false):=⟨by rw [HR.1];exact prog_ids hid⟩
  go_enter Tryz.func119,Tryz.ntmps119
  go_wp2_with (go_at_call 151;refine (HID.1 _ ((Below.refl _ _).alloc (Nat.le_refl _) _)).mono ?_;rintro e w1 ⟨rfl,hb1⟩)
  go_ret
  exact ⟨by rw [HF.1];rfl,((Below.refl _ _).alloc (Nat.le_refl _) _).trans (hb1.mono (by simp))⟩
 | true =>
  rw [hid] at HID
  obtain ⟨b,off,ha,lb,hc⟩:=TR.nat HM.1 (by have:=HN.1;omega)
  have hn0:0<rs.length:=by have:=HN.1;omega
  have hc0:=hc 0 hn0
  rw [Nat.zero_mul,Nat.add_zero] at hc0
  have hg0:=HG.1 0 hn0
  obtain ⟨r0,hr0⟩:∃ r,r=rs[0]:=⟨_,rfl⟩
  rw [<-hr0] at hc0 hg0
  have hroot:=fun W=>implRootOk r0.nd.id r0.nd.parent r0.nd.name r0.nd.dir r0.nd.schema r0.nd.quota r0.nd.len r0.nd.writer r0.loc r0.nd.pieces.length r0.cap W
  have hrb:rootB r0.nd=rootB (T.nodes.getD 0 default):=by rw [hg0]
  simp only [rootQ_is,hrb] at hroot
  have HRT:=Sh.mk hroot
  have HC0:=Sh.mk hc0
  have HID2:=Sh.mk hid
  rw [ha] at HM HID ⊢
  clear hc hc0 hg0 hr0 hroot hid hrb
  cases hrt:rootB (T.nodes.getD 0 default) with
  | false =>
   rw [hrt] at HRT
   have HF:Sh (R=false):=⟨by rw [HR.1];exact prog_root hrt⟩
   clear hrt
   go_enter Tryz.func119,Tryz.ntmps119
   go_wp2_with (first
    | (go_at_call 151;refine (HID.1 _ ((Below.refl _ _).alloc (Nat.le_refl _) _)).mono ?_;rintro e w1 ⟨rfl,hb1⟩;have hbb:Below w.heap.size w w1:=((Below.refl _ _).alloc (Nat.le_refl _) _).trans (hb1.mono (by simp));obtain ⟨c0,c1,c2,c3,c4,c5,c6,c7,c8⟩:=HC0.1.below hbb lb;have x0:w1.cell? ⟨w.heap.size,0,none⟩=some (.slice (some ⟨b,off,none⟩) n cap):=(hb1.cell (by simp)).trans (by simp);have HBB:=Sh.mk hbb)
    | (go_at_call 152;refine (HRT.1 _).mono ?_;rintro e w2 ⟨rfl,hb2⟩))
   go_ret
   exact ⟨by rw [HF.1];rfl,HBB.1.trans (hb2.mono HBB.1.size)⟩
  | true =>
   rw [hrt] at HRT
   have HRT2:=Sh.mk hrt
   clear hrt
   go_enter Tryz.func119,Tryz.ntmps119
   go_wp2_with (first
    | (go_at_call 151;refine (HID.1 _ ((Below.refl _ _).alloc (Nat.le_refl _) _)).mono ?_;rintro e w1 ⟨rfl,hb1⟩;have hbb:Below w.heap.size w w1:=((Below.refl _ _).alloc (Nat.le_refl _) _).trans (hb1.mono (by simp));obtain ⟨c0,c1,c2,c3,c4,c5,c6,c7,c8⟩:=HC0.1.below hbb lb;have x0:w1.cell? ⟨w.heap.size,0,none⟩=some (.slice (some ⟨b,off,none⟩) n cap):=(hb1.cell (by simp)).trans (by simp);have HBX:Sh (BX w w1 (some ⟨b,off,none⟩) n cap nx):=⟨(BX.new w (some ⟨b,off,none⟩) n cap nx 42).below hb1⟩)
    | (go_at_call 152;refine (HRT.1 _).mono ?_;rintro e w2 ⟨rfl,hb2⟩;replace HBX:=Sh.mk (HBX.1.below hb2);have y0:=(HBX.1.box.2 0 _ rfl).1))
   have hlk:Calls Tryz.prog 153 #[.slice (some ⟨b,off,none⟩) n cap] w2 fun e w'=>∃ b1 b2 G C,e = .returned (.agg #[.map (some b1),.map (some b2)])/\Lk w' w2.heap.size b1 b2 rs G C (Ab (nds rs) fun _=>false)/\Below w2.heap.size w2 w':=by
    rw [HN.1]
    exact qcw (HM.1.below HBX.1.bel) (by rw [<-HN.1];exact hl) (by rw [HE.1];exact HI.1) (fun x hx=>by have:=(HS.1 x hx).1;unfold maxLen;omega)
   clear c0 c1 c2 c3 c4 c5 c6 c7 c8 x0 hb1 hb2 hbb HC0
   refine hlk.mono ?_
   rintro e w3 ⟨b1,b2,G,C,rfl,hLk,hb3⟩
   have hbx3:=HBX.1.below hb3
   have HB3:=Sh.mk hbx3
   have HL3:=Sh.mk (hLk.base HBX.1.bel.size)
   clear hlk y0 hb3 hbx3 hLk HBX
   have y0:=(HB3.1.box.2 0 _ rfl).1
   have ly:=HB3.1.box.1
   go_upto_region 4 with fail
   refine qaa (fun W=>BL w W (some ⟨b,off,none⟩) n cap nx w3.heap.size b1 b2 rs G C) ?_ ?_
   ·have hb:Below w3.heap.size w3 (w3.alloc (.cells #[.map (some b1),.map (some b2)] 213)):=(Below.refl _ _).alloc (Nat.le_refl _) _
    exact ⟨HB3.1.below hb,qad w3 #[.map (some b1),.map (some b2)] 213,HL3.1.below hb⟩
   intro W hW
   have HW:=Sh.mk hW
   clear hW y0
   have y0:=(HW.1.bx.box.2 0 _ rfl).1
   obtain ⟨L,hL⟩:∃ L,L=w3.heap.size:=⟨_,rfl⟩
   rw [<-hL] at HW ⊢
   have HASC:Sh (Asc (nds rs)):=⟨by rw [HE.1];exact qmi HID2.1 HRT2.1 (by rw [<-HL.1];omega)⟩
   clear HB3 HL3 hL ly HID HRT
   go_wp2_with fail
   go_loopw [35] (fun i wr=>∃ (k:Nat),i = .int .i64 k/\k<=n/\Sh (qrw T k)/\Sh (BL w wr (some ⟨b,off,none⟩) n cap nx L b1 b2 rs G C)) (fun i _=>n - (intOf i).toNat)
   case atStart=>exact ⟨0,rfl,Nat.zero_le _,⟨fun _ h=>absurd h (Nat.not_lt_zero _)⟩,HW⟩
   case round =>
    clear HW y0
    obtain ⟨k,rfl,hk,hto,hW⟩:=hrel
    have v0:=(hW.1.vr.2 0 _ rfl).1
    have v1:=(hW.1.vr.2 1 _ rfl).1
    have lv:=hW.1.vr.1
    by_cases hlt:k<n
    ·have hkr:k<rs.length:=by rw [<-HN.1];exact hlt
     obtain ⟨b',off',hab,_,hc⟩:=TR.nat HM.1 (by omega)
     have e1:b'=b/\off'=off:=by simpa using hab.symm
     obtain ⟨rfl,rfl⟩:=e1
     have hnk:=(hc k hkr).below hW.1.bx.bel lb
     have hge:=HG.1 k hkr
     have hmem:rs[k].nd ∈ nds rs:=List.mem_map.2 ⟨_,List.getElem_mem hkr,rfl⟩
     have hno:∀ W',Below w.heap.size w W'->Calls Tryz.prog 154 #[nv rs[k]] W' fun e w'=>e = .returned (.bool (kindB (T.nodes.getD k default)))/\Below W'.heap.size W' w':=fun W' hb=>by
      rw [hge]
      exact implNodeOk rs[k] W' ((HM.1.2 _ (List.getElem_mem hkr)).below hb) (HS.1 _ hmem).2
     have hpo:∀ W',BL w W' (some ⟨b',off',none⟩) n cap nx L b1 b2 rs G C->Calls Tryz.prog 155 #[.agg #[.map (some b1),.map (some b2)],nv rs[k]] W' fun e w'=>e = .returned (.bool (qey T.nodes k))/\Below W'.heap.size W' w':=fun W' hb=>by
      have:=placeOk_any hb.lk HASC.1 (by rw [HE.1];exact HI.1) (fun x hx=>(HS.1 x hx).1) hkr
      rw [HE.1] at this
      exact this
     obtain ⟨r,hr⟩:∃ r,r=rs[k]:=⟨_,rfl⟩
     rw [<-hr] at hnk hno hpo
     obtain ⟨⟨id,parent,name,dir,schema,quota,len,pieces,writer⟩,loc,cp⟩:=r
     dsimp only [nv] at hno hpo
     obtain ⟨c0,c1,c2,c3,c4,c5,c6,c7,c8⟩:=hnk
     dsimp only at c0 c1 c2 c3 c4 c5 c6 c7 c8
     generalize pieces.length=pn at *
     have HNO:=Sh.mk hno
     have HPO:=Sh.mk hpo
     have lb':b'<wr.heap.size:=Nat.lt_of_lt_of_le lb hW.1.bx.bel.size
     have k0:(0:Int)<=(k:Int):=by omega
     have k1:(k:Int)<(n:Int):=by omega
     have HKL:Sh (k<T.nodes.length):=⟨by rw [<-HL.1];exact hlt⟩
     clear hc hr hge hmem hno hpo hab
     have HBA:Sh (Below wr.heap.size wr (wr.alloc (.cells #[.int .i64 id,.int .i64 parent,.string name,.bool dir,.int .i64 schema,.int .i64 quota,.int .i64 len,.slice loc pn cp,.int .i64 writer] 87))):=⟨(Below.refl _ _).alloc (Nat.le_refl _) _⟩
     have HNA:Sh (WCells (wr.alloc (.cells #[.int .i64 id,.int .i64 parent,.string name,.bool dir,.int .i64 schema,.int .i64 quota,.int .i64 len,.slice loc pn cp,.int .i64 writer] 87)) wr.heap.size [.int .i64 id,.int .i64 parent,.string name,.bool dir,.int .i64 schema,.int .i64 quota,.int .i64 len,.slice loc pn cp,.int .i64 writer]):=⟨qad wr #[.int .i64 id,.int .i64 parent,.string name,.bool dir,.int .i64 schema,.int .i64 quota,.int .i64 len,.slice loc pn cp,.int .i64 writer] 87⟩
     cases hkd:kindB (T.nodes.getD k default) with
     | false =>
      rw [hkd] at HNO
      have HF:Sh (R=false):=⟨by rw [HR.1];exact qrx HKL.1 (fun hc=>by rw [hkd] at hc;cases hc.1)⟩
      clear hkd
      go_wp2_with (go_at_call 154;refine (HNO.1 _ (hW.1.bx.bel.trans (((Below.refl _ _).alloc (Nat.le_refl _) _).mono hW.1.bx.bel.size))).mono ?_;rintro e w4 ⟨rfl,hb4⟩;have hW4:=(hW.1.below HBA.1).below hb4;have HW4:=Sh.mk hW4;have u0:=(hW4.vr.2 0 _ rfl).1;have u1:=(hW4.vr.2 1 _ rfl).1;have hnd:=HNA.1.grow hb4;have d0:=(hnd.2 0 _ rfl).1;have d1:=(hnd.2 1 _ rfl).1;have d2:=(hnd.2 2 _ rfl).1;have d3:=(hnd.2 3 _ rfl).1;have d4:=(hnd.2 4 _ rfl).1;have d5:=(hnd.2 5 _ rfl).1;have d6:=(hnd.2 6 _ rfl).1;have d7:=(hnd.2 7 _ rfl).1;have d8:=(hnd.2 8 _ rfl).1;clear hW4 hnd hb4)
      go_ret
      exact ⟨by rw [HF.1];rfl,HW4.1.bx.bel⟩
     | true =>
      rw [hkd] at HNO
      have HKD:=Sh.mk hkd
      clear hkd
      by_cases hk0:0<k
      ·have hkp:(0:Int)<(k:Int):=by omega
       cases hpl:qey T.nodes k with
       | false =>
        rw [hpl] at HPO
        have HF:Sh (R=false):=⟨by rw [HR.1];exact qrx HKL.1 (fun hc=>by rw [hpl] at hc;rcases hc.2 with h | h;omega;cases h)⟩
        clear hpl
        go_wp2_with (first | (go_at_call 154;refine (HNO.1 _ (hW.1.bx.bel.trans (((Below.refl _ _).alloc (Nat.le_refl _) _).mono hW.1.bx.bel.size))).mono ?_;rintro e w4 ⟨rfl,hb4⟩;have hW4:=(hW.1.below HBA.1).below hb4;have HW4:=Sh.mk hW4;have u0:=(hW4.vr.2 0 _ rfl).1;have u1:=(hW4.vr.2 1 _ rfl).1;have hnd:=HNA.1.grow hb4;have d0:=(hnd.2 0 _ rfl).1;have d1:=(hnd.2 1 _ rfl).1;have d2:=(hnd.2 2 _ rfl).1;have d3:=(hnd.2 3 _ rfl).1;have d4:=(hnd.2 4 _ rfl).1;have d5:=(hnd.2 5 _ rfl).1;have d6:=(hnd.2 6 _ rfl).1;have d7:=(hnd.2 7 _ rfl).1;have d8:=(hnd.2 8 _ rfl).1;clear hW4 hnd hb4) | (go_at_call 155;refine (HPO.1 _ HW4.1).mono ?_;rintro e w5 ⟨rfl,hb5⟩))
        go_ret
        exact ⟨by rw [HF.1];rfl,(HW4.1.below hb5).bx.bel⟩
       | true =>
        rw [hpl] at HPO
        have HPL:=Sh.mk hpl
        clear hpl
        go_wp2_with (first | (go_at_call 154;refine (HNO.1 _ (hW.1.bx.bel.trans (((Below.refl _ _).alloc (Nat.le_refl _) _).mono hW.1.bx.bel.size))).mono ?_;rintro e w4 ⟨rfl,hb4⟩;have hW4:=(hW.1.below HBA.1).below hb4;have HW4:=Sh.mk hW4;have u0:=(hW4.vr.2 0 _ rfl).1;have u1:=(hW4.vr.2 1 _ rfl).1;have hnd:=HNA.1.grow hb4;have d0:=(hnd.2 0 _ rfl).1;have d1:=(hnd.2 1 _ rfl).1;have d2:=(hnd.2 2 _ rfl).1;have d3:=(hnd.2 3 _ rfl).1;have d4:=(hnd.2 4 _ rfl).1;have d5:=(hnd.2 5 _ rfl).1;have d6:=(hnd.2 6 _ rfl).1;have d7:=(hnd.2 7 _ rfl).1;have d8:=(hnd.2 8 _ rfl).1;clear hW4 hnd hb4) | (go_at_call 155;refine (HPO.1 _ HW4.1).mono ?_;rintro e w5 ⟨rfl,hb5⟩))
        go_roundw
        case rel =>
         refine ⟨k+1,by go_num,by omega,⟨fun j hj=>?_⟩,⟨HW4.1.below hb5⟩⟩
         rcases Nat.lt_succ_iff_lt_or_eq.1 hj with h | h
         ·exact hto.1 j h
         ·subst h
          exact ⟨HKD.1,.inr HPL.1⟩
        case measure=>simp [intOf];omega
      ·have hkn:decide ((0:Int)<(k:Int))=false:=by simp;omega
       have hkn':¬ (0:Int)<(k:Int):=by omega
       go_wp2_with (go_at_call 154;refine (HNO.1 _ (hW.1.bx.bel.trans (((Below.refl _ _).alloc (Nat.le_refl _) _).mono hW.1.bx.bel.size))).mono ?_;rintro e w4 ⟨rfl,hb4⟩;have hW4:=(hW.1.below HBA.1).below hb4;have HW4:=Sh.mk hW4;have u0:=(hW4.vr.2 0 _ rfl).1;have u1:=(hW4.vr.2 1 _ rfl).1;have hnd:=HNA.1.grow hb4;have d0:=(hnd.2 0 _ rfl).1;have d1:=(hnd.2 1 _ rfl).1;have d2:=(hnd.2 2 _ rfl).1;have d3:=(hnd.2 3 _ rfl).1;have d4:=(hnd.2 4 _ rfl).1;have d5:=(hnd.2 5 _ rfl).1;have d6:=(hnd.2 6 _ rfl).1;have d7:=(hnd.2 7 _ rfl).1;have d8:=(hnd.2 8 _ rfl).1;clear hW4 hnd hb4)
       go_roundw
       case rel =>
        refine ⟨k+1,by go_num,by omega,⟨fun j hj=>?_⟩,HW4⟩
        rcases Nat.lt_succ_iff_lt_or_eq.1 hj with h | h
        ·exact hto.1 j h
        ·subst h
         exact ⟨HKD.1,.inl (by omega)⟩
       case measure=>simp [intOf];omega
    ·have hlt':¬ (k:Int)<(n:Int):=by omega
     obtain rfl:k=n:=by omega
     have HT:Sh (R=true):=⟨by rw [HR.1];exact prog_yes (inI_iff.2 (by have:=HL.1;omega)) HID2.1 HRT2.1 (by rw [<-HL.1];exact hto.1)⟩
     go_wp2_with fail
     go_ret
     exact ⟨by rw [HT.1];rfl,hW.1.bx.bel⟩
theorem field_id (p q:Option Nat) (W:World):(Instr.field 213 (.agg #[.map p,.map q]) 0).run Tryz.prog W = .ok (.map p) W:=by kernel_rfl
def AtPost (T:TM) (id:Int) (w:World) (e:Ending) (w':World):Prop:=∃ o,e = .returned (ptrV o)/\Below w.heap.size w w'/\((qae T=false/\o=none)\/(qae T=true/\∃ G,o=(fid T.nodes id).map G/\Nd w' T.nodes G))
theorem qmf (hf:NFit T):∀ x ∈ T.nodes,x.name.size<=1048576/\x.pieces.length<=1048576:=fun x hx=>by
 have:=qeo hx
 unfold NFit at hf
 omega
theorem qhn (w:World) (v:Value) (T:TM) (lo hi:Nat) (id:Int) (h:TSee w v T lo hi) (hf:NFit T) (hI:NInt T.nodes) (hid:(Lit.int .i64 id).wf=true):Calls Tryz.prog 181 #[v,.int .i64 id] w fun e w'=>AtPost T id w e w':=by
 have hsee:=h
 obtain ⟨a,cap,rs,rfl,hr,hm⟩:=h
 have hl:rs.length<=1048576:=by unfold NFit at hf;rw [<-hr,qaf] at hf;omega
 obtain ⟨n,hn⟩:∃ n,n=rs.length:=⟨_,rfl⟩
 obtain ⟨nx,hnx⟩:∃ nx,nx=T.next:=⟨_,rfl⟩
 rw [<-hn,<-hnx] at hsee ⊢
 have hok:=fun W (hb:Below w.heap.size w W)=>qfp W _ T lo hi (hsee.below hb) hf hI
 have hlk:=fun W (hb:Below w.heap.size w W)=>qcw (cap:=cap) (hm.below hb) hl (by rw [hr];exact hI) (fun x hx=>by rw [hr] at hx;have:=(qmf hf x hx).1;unfold maxLen;omega)
 rw [<-hn] at hlk
 have HOK:=Sh.mk hok
 have HLK:=Sh.mk hlk
 have HR:=Sh.mk hr
 clear hok hlk hr hm hsee hn hnx
 cases ht:qae T with
 | false =>
  rw [ht] at HOK
  have HT:=Sh.mk ht
  clear ht
  go_enter Tryz.func181,Tryz.ntmps181
  go_wp2_with (go_at_call 119;refine (HOK.1 _ ((Below.refl _ _).alloc (Nat.le_refl _) _)).mono ?_;rintro e w1 ⟨rfl,hb1⟩)
  go_ret
  exact ⟨none,rfl,((Below.refl _ _).alloc (Nat.le_refl _) _).trans (hb1.mono (by simp)),.inl ⟨HT.1,rfl⟩⟩
 | true =>
  rw [ht] at HOK
  have HT:=Sh.mk ht
  clear ht
  go_enter Tryz.func181,Tryz.ntmps181
  go_wp2_with (go_at_call 119;refine (HOK.1 _ ((Below.refl _ _).alloc (Nat.le_refl _) _)).mono ?_;rintro e w1 ⟨rfl,hb1⟩;have hbx:=(BX.new w a n cap nx 42).below hb1;have HBX:=Sh.mk hbx;have x0:=(hbx.box.2 0 _ rfl).1;clear hb1 hbx)
  refine (HLK.1 _ HBX.1.bel).mono ?_
  rintro e w2 ⟨b1,b2,G,C,rfl,hL,hb2⟩
  obtain ⟨D1,o1,t1⟩:=hL.m1
  have k1:=qcx keyI Tryz.underlying210 qgn o1 (qcc hid) (t1 id) 0
  rw [World.drewN_zero] at k1
  have HL:=Sh.mk hL
  have HB:=Sh.mk (HBX.1.bel.trans (hb2.mono HBX.1.bel.size))
  clear hL hb2 o1 t1 x0
  have k0:=field_id (some b1) (some b2)
  go_wp2_with fail
  go_ret
  refine ⟨(fid (nds rs) id).map G,rfl,HB.1,.inr ⟨HT.1,G,by rw [HR.1],?_⟩⟩
  rw [<-HR.1]
  exact HL.1.nd
theorem implSchemaAt (w:World) (v:Value) (T:TM) (lo hi:Nat) (id:Int) (h:TSee w v T lo hi) (hf:NFit T) (hI:NInt T.nodes) (hid:(Lit.int .i64 id).wf=true):Calls Tryz.prog 238 #[v,.int .i64 id] w fun e w'=>e = .returned (.int .i64 (qbk T id))/\Below w.heap.size w w':=by
 have hsee:=h
 obtain ⟨a,cap,rs,rfl,hr,hm⟩:=h
 obtain ⟨n,hn⟩:∃ n,n=rs.length:=⟨_,rfl⟩
 obtain ⟨nx,hnx⟩:∃ nx,nx=T.next:=⟨_,rfl⟩
 rw [<-hn,<-hnx] at hsee ⊢
 have hat:=fun W (hb:Below w.heap.size w W)=>qhn W _ T lo hi id (hsee.below hb) hf hI hid
 have HAT:=Sh.mk hat
 obtain ⟨R,hR⟩:∃ R,R=qbk T id:=⟨_,rfl⟩
 rw [<-hR]
 have HR:=Sh.mk hR
 clear hat hr hm hsee hn hnx hR hf hI hid
 go_enter Tryz.func238,Tryz.ntmps238
 go_wp2_with fail
 refine (HAT.1 _ ((Below.refl _ _).alloc (Nat.le_refl _) _)).mono ?_
 rintro e w1 ⟨o,rfl,hb1,hcase⟩
 have HB:=Sh.mk (((Below.refl w.heap.size w).alloc (Nat.le_refl _) (.cells #[.slice a n cap,.int .i64 nx] 42)).trans (hb1.mono (by simp)))
 clear hb1 HAT
 rcases hcase with ⟨ht,rfl⟩ | ⟨ht,G,rfl,hnd⟩
 ·have HE:Sh (R=0):=⟨by rw [HR.1];unfold qbk;rw [if_neg (by rw [ht];decide)]⟩
  rw [qbu]
  clear ht
  go_wp2_with fail
  go_loopg [5] 0 (fun _ p wr=>p = .pointer none/\wr=w1)
  case atStart=>exact ⟨rfl,rfl⟩
  case round =>
   obtain ⟨rfl,rfl⟩:=hrel
   go_wp2_with fail
   go_ret
   exact ⟨by rw [HE.1];rfl,HB.1⟩
 ·have HT:=Sh.mk (qdk ht)
  have HND:=Sh.mk hnd
  have HE:Sh (R=qcl T.nodes 15 id):=⟨by rw [HR.1];unfold qbk;rw [if_pos ht]⟩
  clear hnd ht
  obtain ⟨N,hN⟩:∃ N,∀ j d,Ups T.nodes j d->j<T.nodes.length->d+1<=N:=⟨5,fun j d hu hj=>by obtain ⟨d',hd,hu'⟩:=HT.1.2 j hj;rw [hu.det hu'];omega⟩
  have HNN:=Sh.mk hN
  clear hN
  go_wp2_with fail
  go_loopg [5] N (fun m p wr=>wr=w1/\(Sh (p = .pointer none/\R=0)\/Sh (∃ (j d r:Nat),p = .pointer (some ⟨G j,0,none⟩)/\d+1<=m/\j<T.nodes.length/\Ups T.nodes j d/\qcl T.nodes (d+2+r) (T.nodes.getD j default).id=R)))
  case atStart =>
   refine ⟨rfl,?_⟩
   cases hf:fid T.nodes id with
   | none=>exact .inl ⟨⟨rfl,by rw [HE.1];exact qfi hf⟩⟩
   | some j =>
    obtain ⟨hj,ej⟩:=qbw hf
    obtain ⟨d,hd,hu⟩:=HT.1.2 j hj
    refine .inr ⟨⟨j,d,13 - d,rfl,HNN.1 j d hu hj,hj,hu,?_⟩⟩
    rw [HE.1,getD_in hj,ej,show d+2+(13 - d)=15 by omega]
  case round =>
   obtain ⟨rfl,hrel⟩:=hrel
   rcases hrel with ⟨rfl,hR0⟩ | ⟨j,d,r,rfl,hdm,hj,hu,h1⟩
   ·have HE0:=Sh.mk hR0
    clear hR0
    go_wp2_with fail
    go_ret
    exact ⟨by rw [HE0.1];rfl,HB.1⟩
   ·have c4:=(HND.1.cells j hj).2.2.2.2.1
    have hf:=HT.1.1.fid hj
    have c9:=HND.1.above j hj hf
    have hge:=getD_in hj
    obtain ⟨x,hx⟩:∃ x,x=T.nodes[j]:=⟨_,rfl⟩
    rw [<-hx] at c4 c9 hge hf
    rw [hge,show d+2+r=(d+1+r)+1 by omega,qia (i:=j) hf,hge] at h1
    have HH:=Sh.mk (And.intro h1 (And.intro hu hge))
    obtain ⟨o,ho⟩:∃ o,o=fid T.nodes x.parent:=⟨_,rfl⟩
    rw [<-ho] at c9
    have HO:=Sh.mk ho
    clear ho h1 hu hge hf hx
    by_cases hs:x.schema=0
    ·cases o with
     | none =>
      simp only [Option.map_none,qbu] at c9
      go_wp2_with fail
      go_roundg (gk - 1)
      case measure=>omega
      case rel =>
       refine ⟨rfl,.inl ⟨⟨rfl,?_⟩⟩⟩
       obtain ⟨h1,hu,hge⟩:=HH.1
       rw [if_neg (by simp [hs])] at h1
       rw [<-h1,show d+1+r=(d+r)+1 by omega]
       exact qfi HO.1.symm
     | some k =>
      simp only [Option.map_some,qbt] at c9
      go_wp2_with fail
      go_roundg (gk - 1)
      case measure=>omega
      case rel =>
       refine ⟨rfl,.inr ⟨?_⟩⟩
       obtain ⟨h1,hu,hge⟩:=HH.1
       rw [if_neg (by simp [hs])] at h1
       cases hu with
       | root =>
        have e0:=HT.1.1.2.2.2
        have h4:=HO.1
        rw [hge] at e0
        rw [e0,HT.1.1.zero] at h4
        cases h4
       | @step _ k' d' _ _ hk hu' =>
        rw [hge,<-HO.1] at hk
        cases hk
        obtain ⟨hkl,ek⟩:=qbw HO.1.symm
        refine ⟨k,d',r,rfl,by omega,hkl,hu',?_⟩
        rw [<-ek,<-getD_in hkl] at h1
        rw [<-h1,show d'+2+r=d'+1+1+r by omega]
    ·have hs':(x.schema != 0)=true:=by simp [hs]
     go_wp2_with fail
     go_ret
     refine ⟨?_,HB.1⟩
     obtain ⟨h1,hu,hge⟩:=HH.1
     rw [if_pos hs] at h1
     rw [<-h1]
     rfl
theorem qnb (c:Int) (nm:ByteArray):∀ (ns:List NM) (z:Int),z ≠ 0->ns.foldl (kidS c nm) z=z
 | [],z,_=>rfl
 | n::ns,z,hz=>by
  rw [List.foldl_cons]
  have:kidS c nm z n=z:=by unfold kidS;rw [if_neg (by intro q;exact hz q.2.2)]
  rw [this]
  exact qnb c nm ns z hz
theorem qrp (c:Int) (nm:ByteArray):∀ (ns:List NM),(∀ n ∈ ns,n.id ≠ 0)->kidF ns c nm=match fnm ns c nm with
  | none=>0
  | some k=>(ns.getD k default).id
 | [],_=>rfl
 | n::ns,h=>by
  have ih:=qrp c nm ns (fun m hm=>h m (by simp [hm]))
  unfold kidF fnm at ih ⊢
  rw [List.foldl_cons,List.findIdx?_cons]
  by_cases e:n.parent=c/\n.name=nm
  ·have e1:kidS c nm 0 n=n.id:=by unfold kidS;rw [if_pos ⟨e.1,e.2,rfl⟩]
   rw [e1,qnb c nm ns n.id (h n (by simp)),if_pos (by simp [e.1,e.2])]
   rfl
  ·have e1:kidS c nm 0 n=0:=by unfold kidS;rw [if_neg (by intro q;exact e ⟨q.1,q.2.1⟩)]
   rw [e1,ih,if_neg (by simpa using e)]
   cases ns.findIdx? (fun n=>n.parent==c&&decide (n.name=nm)) <;> rfl
def fo (ns:List NM) (o:Option Nat) (L:List ByteArray):Int:=match o with
 | none=>0
 | some j=>findF ns L (ns.getD j default).id
theorem fo_step {ns:List NM} (hz:∀ n ∈ ns,n.id ≠ 0) {j k:Nat} {L:List ByteArray} (hk:k<L.length):fo ns (some j) (L.drop k)=fo ns (fnm ns (ns.getD j default).id (L.getD k ⟨#[]⟩)) (L.drop (k+1)):=by
 show findF ns (L.drop k) (ns.getD j default).id=_
 rw [qls ns L k _ hk,qrp _ _ ns hz]
 cases e:fnm ns (ns.getD j default).id (L.getD k ⟨#[]⟩) with
 | none=>rfl
 | some q =>
  obtain ⟨hq,-,-⟩:=qlc e
  have:(ns.getD q default).id ≠ 0:=by rw [getD_in hq];exact hz _ (List.getElem_mem hq)
  simp only
  rw [if_neg this]
  rfl
theorem fo_first {p:ByteArray} {L:List ByteArray} (h:splitB p=(L,true)):findX T p=fo T.nodes (fid T.nodes 1) L:=by
 unfold findX
 rw [h,qnp]
 cases e:fid T.nodes 1 with
 | none=>simp [fo]
 | some j =>
  obtain ⟨hj,ej⟩:=qbw e
  simp only [fo]
  rw [if_pos ⟨trivial,by omega⟩,getD_in hj,ej]
theorem look_nil (s:ByteArray) (W:World):(Instr.lookup 239 (.map none) (.string s) false).run Tryz.prog W = .ok (.pointer none) W:=by kernel_rfl
theorem em_some (g:Nat):mapV (some g) = .map (some g):=rfl
theorem em_none:mapV none = .map none:=rfl
attribute [local irreducible] fo findX
theorem implFindPath (w:World) (v:Value) (T:TM) (lo hi:Nat) (p:ByteArray) (h:TSee w v T lo hi) (hf:NFit T) (hI:NInt T.nodes) (hz:∀ n ∈ T.nodes,n.id ≠ 0) (hp:p.size<=1048576):Calls Tryz.prog 121 #[v,.string p] w fun e w'=>e = .returned (.int .i64 (findX T p))/\Below w.heap.size w w':=by
 have hsee:=h
 obtain ⟨a,cap,rs,rfl,hr,hm⟩:=h
 have hl:rs.length<=1048576:=by unfold NFit at hf;rw [<-hr,qaf] at hf;omega
 obtain ⟨n,hn⟩:∃ n,n=rs.length:=⟨_,rfl⟩
 obtain ⟨nx,hnx⟩:∃ nx,nx=T.next:=⟨_,rfl⟩
 rw [<-hn,<-hnx] at hsee ⊢
 have hlk:=fun W (hb:Below w.heap.size w W)=>qcw (cap:=cap) (hm.below hb) hl (by rw [hr];exact hI) (fun x hx=>by rw [hr] at hx;have:=(qmf hf x hx).1;unfold maxLen;omega)
 rw [<-hn] at hlk
 have HLK:=Sh.mk hlk
 have HR:=Sh.mk hr
 have HF:=Sh.mk hf
 have HI:=Sh.mk hI
 have HZ:=Sh.mk hz
 have HSP:=Sh.mk (fun W=>qgs p W hp)
 obtain ⟨X,hX⟩:∃ X,X=findX T p:=⟨_,rfl⟩
 rw [<-hX]
 have HX:=Sh.mk hX
 have HNM:=Sh.mk (qbx p)
 obtain ⟨L,ok,hre⟩:∃ L ok,splitB p=(L,ok):=⟨_,_,rfl⟩
 have HRE:=Sh.mk hre
 rw [hre] at HSP HNM
 unfold QPost at HSP
 clear hlk hr hm hsee hn hnx hX hre hf hI hz hp
 cases ok with
 | false =>
  have HE:Sh (X=0):=⟨by rw [HX.1];unfold findX;rw [HRE.1];simp⟩
  go_enter Tryz.func121,Tryz.ntmps121
  go_wp2_with (go_at_call 157;refine (HSP.1 _).mono ?_;rintro e w1 ⟨sv,rfl,ho,hb1⟩;have HB1:=Sh.mk hb1;clear ho hb1)
  go_ret
  exact ⟨by rw [HE.1];rfl,((Below.refl _ _).alloc (Nat.le_refl _) _).trans (HB1.1.mono (by simp))⟩
 | true =>
  have HE:Sh (X=fo T.nodes (fid T.nodes 1) L):=⟨by rw [HX.1];exact fo_first HRE.1⟩
  clear HX HRE
  go_enter Tryz.func121,Tryz.ntmps121
  go_upto_region 4 with (go_at_call 157;refine (HSP.1 _).mono ?_;rintro e w1 ⟨sv,rfl,ho,hb1⟩;have HO:=Sh.mk (OwnAt.oans ho);have hbx:=(BX.new w a n cap nx 42).below hb1;have HBX:=Sh.mk hbx;have x0:=(hbx.box.2 0 _ rfl).1;clear ho hb1 hbx)
  obtain ⟨sa,sc,rfl,_,hcs⟩:=HO.1
  have HCS:=Sh.mk hcs
  obtain ⟨m,hm⟩:∃ m,m=L.length:=⟨_,rfl⟩
  have HML:=Sh.mk hm
  have hm4:m<=4:=by have:=HNM.1.2;omega
  rw [<-hm]
  clear hm hcs HO
  go_wp2_with fail
  refine (HLK.1 _ HBX.1.bel).mono ?_
  rintro e w2 ⟨b1,b2,G,C,rfl,hL,hb2⟩
  have HCS2:Sh (L=[]\/∃ g off,sa=some ⟨g,off,none⟩/\g<w2.heap.size/\OCells w2 g off L):=⟨HCS.1.imp id (fun ⟨g,off,e1,_,e2,e3⟩=>⟨g,off,e1,Nat.lt_of_lt_of_le e2 hb2.size,e3.below hb2 e2⟩)⟩
  have HB:=Sh.mk (HBX.1.bel.trans (hb2.mono HBX.1.bel.size))
  have HL2:=Sh.mk hL
  clear hL hb2 x0 HCS
  go_upto_region 5 with fail
  obtain ⟨lb,hlb⟩:∃ lb,lb=w2.heap.size:=⟨_,rfl⟩
  refine qaa (fun W=>Below w2.heap.size w2 W/\WCells W lb [.map (some b1),.map (some b2)]) ⟨(Below.refl _ _).alloc (Nat.le_refl _) _,by rw [hlb];exact qad w2 #[.map (some b1),.map (some b2)] 213⟩ ?_
  intro V hV
  rw [<-hlb]
  clear hlb
  obtain ⟨hbV,hxV⟩:=hV
  have hLV:=HL2.1.below hbV
  obtain ⟨D1,o1,t1⟩:=hLV.m1
  have k1:=qcx keyI Tryz.underlying210 qgn o1 (qcc (x:=1) (by decide)) (t1 1) 0
  rw [World.drewN_zero,HR.1] at k1
  have x0:=(hxV.2 0 _ rfl).1
  have HCS3:Sh (L=[]\/∃ g off,sa=some ⟨g,off,none⟩/\g<V.heap.size/\OCells V g off L):=⟨HCS2.1.imp id (fun ⟨g,off,e1,e2,e3⟩=>⟨g,off,e1,Nat.lt_of_lt_of_le e2 hbV.size,e3.below hbV e2⟩)⟩
  have HBV:=Sh.mk (HB.1.trans (hbV.mono HB.1.size))
  have HLV:=Sh.mk hLV
  have HXV:=Sh.mk hxV
  clear hbV hxV hLV o1 t1 HB HL2 HCS2
  go_wp2_with fail
  go_loopw [8,26] (fun pv iv wr=>∃ (k:Nat) (o:Option Nat),pv=ptrV (o.map G)/\iv = .int .i64 k/\k<=m/\Sh ((∀ j,o=some j->j<T.nodes.length)/\X=fo T.nodes o (L.drop k))/\Sh (Below V.heap.size V wr)) (fun _ iv _=>m - (intOf iv).toNat)
  case atStart=>exact ⟨0,fid T.nodes 1,rfl,rfl,Nat.zero_le _,⟨fun j hj=>(qbw hj).1,by rw [List.drop_zero];exact HE.1⟩,⟨Below.refl _ _⟩⟩
  case round =>
   clear x0 k1
   obtain ⟨k,o,rfl,rfl,hk,HK,HW⟩:=hrel
   by_cases hlt:k<m
   case pos =>
    have hkL:k<L.length:=by have:=HML.1;omega
    have k0:(0:Int)<=(k:Int):=by omega
    have k1:(k:Int)<(m:Int):=by omega
    obtain ⟨g,off,rfl,lg,hoc⟩:=HCS3.1.resolve_left (fun e=>by rw [e] at hkL;simp at hkL)
    have c0:=(hoc.below HW.1 lg).2 k hkL
    have hns:(L.getD k ⟨#[]⟩).size<=8:=by
     have:=HNM.1.1 L[k] (List.getElem_mem hkL)
     have e:L.getD k ⟨#[]⟩=L[k]:=by simp [List.getD,hkL]
     rw [e]
     exact ((qeb _).1 this).2.2
    have HCS4:=Sh.mk hoc
    cases o with
    | none =>
     rw [Option.map_none,qbu]
     have HE0:Sh (X=0):=⟨by rw [HK.1.2];unfold fo;rfl⟩
     go_wp2_with fail
     go_ret
     exact ⟨by rw [HE0.1];rfl,HBV.1.trans (HW.1.mono HBV.1.size)⟩
    | some j =>
     rw [Option.map_some,qbt]
     have hj:=HK.1.1 j rfl
     have hLw:=HLV.1.below HW.1
     have hst:=fo_step HZ.1 (j:=j) hkL
     rw [<-HK.1.2] at hst
     obtain ⟨s,hs⟩:∃ s,s=L.getD k ⟨#[]⟩:=⟨_,rfl⟩
     rw [<-hs] at c0 hns hst
     have hnd:=hLw.nd
     rw [HR.1] at hnd
     have d0:=(hnd.cells j hj).1
     have hge:=getD_in hj
     obtain ⟨x,hx⟩:∃ x,x=T.nodes[j]:=⟨_,rfl⟩
     have hxI:=HI.1 T.nodes[j] (List.getElem_mem hj)
     rw [<-hx] at d0 hge hxI
     rw [hge] at hst
     have y1:=((HXV.1.grow HW.1).2 1 _ rfl).1
     obtain ⟨D2,o2,t2⟩:=hLw.m2
     rw [HR.1] at t2
     have HST:=Sh.mk hst
     by_cases hpar:Par T.nodes x.id
     ·have k2:=qgq keyI Tryz.underlying211 qnk o2 (qcc hxI.1) ((t2 x.id).1 hpar)
      obtain ⟨d1,d2,d3,D3,o3,t3⟩:=hLw.m3 x.id (by rw [HR.1];exact hpar)
      have k3:=qcx keyS Tryz.underlying239 qgn o3 (qje (s:=s) (by unfold maxLen;omega)) (t3 s)
      rw [HR.1] at k3
      rw [em_some] at k2
      obtain ⟨o',ho'⟩:∃ o',o'=fnm T.nodes x.id s:=⟨_,rfl⟩
      rw [<-ho'] at k3
      have HN:Sh ((∀ q,o'=some q->q<T.nodes.length)/\X=fo T.nodes o' (L.drop (k+1))):=⟨fun q hq=>by rw [ho'] at hq;exact (qlc hq).1,by rw [ho'];exact HST.1⟩
      clear hnd hge hx hxI o2 t2 o3 t3 d1 d2 d3 hpar hst hLw hj hs ho' hoc
      go_wp2_with fail
      go_quiet (fail)
      have HBQ:Sh (Below V.heap.size V (wr.drewN nq)):=⟨HW.1.trans ((Below.mono (B:=(wr.drewN nq).heap.size) ⟨rfl,rfl,rfl,Nat.le_refl _,fun _ _=>rfl⟩ (Nat.le_refl _):Below wr.heap.size wr (wr.drewN nq)).mono HW.1.size)⟩
      go_wp2_with fail
      go_roundw
      case rel=>exact ⟨k+1,o',rfl,by go_num,by omega,HN,HBQ⟩
      case measure=>simp [intOf];omega
     ·have k2:=qgq keyI Tryz.underlying211 qnk o2 (qcc hxI.1) ((t2 x.id).2 hpar)
      rw [em_none] at k2
      have k3:=look_nil s
      have hfn:fnm T.nodes x.id s=none:=by
       cases e:fnm T.nodes x.id s with
       | none=>rfl
       | some q=>exact absurd (qru e) hpar
      have HN:Sh ((∀ q,(none:Option Nat)=some q->q<T.nodes.length)/\X=fo T.nodes none (L.drop (k+1))):=⟨fun q hq=>(by cases hq),by rw [<-hfn];exact HST.1⟩
      clear hnd hge hx hxI o2 t2 hpar hst hLw hj hs hfn hoc
      go_wp2_with fail
      go_quiet (fail)
      have HBQ:Sh (Below V.heap.size V (wr.drewN nq)):=⟨HW.1.trans ((Below.mono (B:=(wr.drewN nq).heap.size) ⟨rfl,rfl,rfl,Nat.le_refl _,fun _ _=>rfl⟩ (Nat.le_refl _):Below wr.heap.size wr (wr.drewN nq)).mono HW.1.size)⟩
      go_wp2_with fail
      go_roundw
      case rel=>exact ⟨k+1,none,rfl,by go_num,by omega,HN,HBQ⟩
      case measure=>simp [intOf];omega
   case neg =>
    have k1:¬ (k:Int)<(m:Int):=by omega
    have hdr:L.drop k=[]:=List.drop_of_length_le (by have:=HML.1;omega)
    cases o with
    | none =>
     rw [Option.map_none,qbu]
     have HE0:Sh (X=0):=⟨by rw [HK.1.2];unfold fo;rfl⟩
     go_wp2_with fail
     go_ret
     exact ⟨by rw [HE0.1];rfl,HBV.1.trans (HW.1.mono HBV.1.size)⟩
    | some j =>
     rw [Option.map_some,qbt]
     have hj:=HK.1.1 j rfl
     have hnd:=(HLV.1.below HW.1).nd
     rw [HR.1] at hnd
     have d0:=(hnd.cells j hj).1
     obtain ⟨x,hx⟩:∃ x,x=T.nodes[j]:=⟨_,rfl⟩
     have HE0:Sh (X=x.id):=⟨by rw [HK.1.2,hdr,hx];unfold fo;simp only [findF];rw [getD_in hj]⟩
     rw [<-hx] at d0
     clear hnd hx hdr hj
     go_wp2_with fail
     go_ret
     exact ⟨by rw [HE0.1];rfl,HBV.1.trans (HW.1.mono HBV.1.size)⟩
end Go.Proofs.YtoglebfiobofoaaGreatDoor
/- LkK: . -/
namespace Go.Proofs.YtoglebfiobofoaaGreatDoor
set_option maxRecDepth 100000
set_option maxHeartbeats 16000000
open Go.RowKit Go.Maps BigFrame
attribute [local go_sem ↓] Go.wp_at_zero Go.wp_at_succ
variable {xs:List Int} {ns:List NM} {a:Option Addr} {T:TM} {w:World}
def blwL (all ns:List NM) (top:Int):List Int:=(ns.filter fun n=>decide (top ≠ 0)&&qal all 15 n.id top).map NM.id
theorem blwL_take (all ns:List NM) (top:Int) (k:Nat) (h:k<ns.length):blwL all (ns.take (k+1)) top=blwL all (ns.take k) top++if (decide (top ≠ 0)&&qal all 15 ns[k].id top)=true then [ns[k].id] else []:=by
 rw [List.take_succ_eq_append_getElem h]
 unfold blwL
 rw [List.filter_append,List.map_append]
 congr 1
 simp only [List.filter_cons,List.filter_nil]
 split <;> simp
theorem qry (h:qae T=true) (id:Int):blwL T.nodes T.nodes id=qap T id:=by
 have ht:=qdk h
 unfold qap blwL
 cases hf:fid T.nodes id with
 | none =>
  rw [if_neg (by rw [qnp,hf];simp)]
  rw [List.map_eq_nil_iff,List.filter_eq_nil_iff]
  intro n hn hc
  obtain ⟨i,hi,rfl⟩:=List.mem_iff_getElem.1 hn
  obtain ⟨d,_,hu⟩:=ht.2 i hi
  simp only [Bool.and_eq_true,decide_eq_true_eq] at hc
  have:=belowF_no ht.1 hf hc.1 hu 15
  rw [getD_in hi,hc.2] at this
  cases this
 | some i =>
  rw [if_pos ⟨h,by rw [qnp,hf];simp⟩]
  obtain ⟨hi,e⟩:=qbw hf
  have h0:id ≠ 0:=by have:=ht.1.pos hi;omega
  unfold qbs
  congr 2
  funext n
  simp [h0]
theorem qjh (w:World) (v:Value) (T:TM) (lo hi:Nat) (id:Int) (h:TSee w v T lo hi) (hf:NFit T) (hI:NInt T.nodes):Calls Tryz.prog 183 #[v,.int .i64 id] w fun e w'=>IPost (qap T id) w e w':=by
 have hsee:=h
 obtain ⟨a,cap,rs,rfl,hr,hm⟩:=h
 have hlen:rs.length=T.nodes.length:=by rw [<-hr,qaf]
 have hl:rs.length<=1048576:=by unfold NFit at hf;omega
 have hget:∀ j (hj:j<rs.length),∃ hj':j<T.nodes.length,T.nodes[j]=rs[j].nd:=fun j hj=>by
  refine ⟨by rw [<-hr,qaf];exact hj,?_⟩
  rw [List.getElem_of_eq hr.symm]
  simp [nds]
 obtain ⟨n,hn⟩:∃ n,n=rs.length:=⟨_,rfl⟩
 obtain ⟨nx,hnx⟩:∃ nx,nx=T.next:=⟨_,rfl⟩
 rw [<-hn,<-hnx] at hsee ⊢
 have hok:=fun W (hb:Below w.heap.size w W)=>qfp W _ T lo hi (hsee.below hb) hf hI
 have hlk:=fun W (hb:Below w.heap.size w W)=>qcw (cap:=cap) (hm.below hb) hl (by rw [hr];exact hI) (fun x hx=>by rw [hr] at hx;have:=(qmf hf x hx).1;unfold maxLen;omega)
 rw [<-hn] at hlk hl hlen
 obtain ⟨R,hR⟩:∃ R,R=qap T id:=⟨_,rfl⟩
 rw [<-hR]
 have HOK:=Sh.mk hok
 have HLK:=Sh.mk hlk
 have HE:=Sh.mk hr
 have HM:=Sh.mk hm
 have HN:=Sh.mk hn
 have HL:=Sh.mk hlen
 have HG:=Sh.mk hget
 have HR:=Sh.mk hR
 have HI:=Sh.mk hI
 clear hok hlk hr hm hsee hn hnx hlen hget hR hI hf
 cases ht:qae T with
 | false =>
  rw [ht] at HOK
  have HF:Sh (R=[]):=⟨by rw [HR.1];unfold qap;rw [if_neg (by rw [ht];simp)]⟩
  clear ht
  go_enter Tryz.func183,Tryz.ntmps183
  go_wp2_with (go_at_call 119;refine (HOK.1 _ ((Below.refl _ _).alloc (Nat.le_refl _) _)).mono ?_;rintro e w1 ⟨rfl,hb1⟩)
  go_ret
  exact ⟨_,rfl,by rw [HF.1];exact IAns.empty _ _ _ _ _,((Below.refl _ _).alloc (Nat.le_refl _) _).trans (hb1.mono (by simp))⟩
 | true =>
  rw [ht] at HOK
  have HT:=Sh.mk (qdk ht)
  have HRR:Sh (R=blwL T.nodes T.nodes id):=⟨by rw [HR.1,qry ht]⟩
  have h14:n<=14:=by have:=qhb ht;have:=HL.1;omega
  obtain ⟨t0,ht0,hty0,hty1,hty2⟩:=info_parts qig
  clear ht
  go_enter Tryz.func183,Tryz.ntmps183
  go_wp2_with (go_at_call 119;refine (HOK.1 _ ((Below.refl _ _).alloc (Nat.le_refl _) _)).mono ?_;rintro e w1 ⟨rfl,hb1⟩;have hbx:=(BX.new w a n cap nx 42).below hb1;have HBX:=Sh.mk hbx;have x0:=(hbx.box.2 0 _ rfl).1;clear hb1 hbx)
  refine (HLK.1 _ HBX.1.bel).mono ?_
  rintro e w2 ⟨b1,b2,G,C,rfl,hL,hb2⟩
  have HB2:=Sh.mk (HBX.1.below hb2)
  have HL2:=Sh.mk (hL.base HBX.1.bel.size)
  clear hL hb2 x0 HBX
  have x0:=(HB2.1.box.2 0 _ rfl).1
  have lx:=HB2.1.box.1
  go_upto_region 5 with fail
  refine qaa (fun W=>BL w W a n cap nx w2.heap.size b1 b2 rs G C) ?_ ?_
  ·have hb:Below w2.heap.size w2 (w2.alloc (.cells #[.map (some b1),.map (some b2)] 213)):=(Below.refl _ _).alloc (Nat.le_refl _) _
   exact ⟨HB2.1.below hb,qad w2 #[.map (some b1),.map (some b2)] 213,HL2.1.below hb⟩
  intro V hV
  have HV:=Sh.mk hV
  clear hV x0
  have x0:=(HV.1.bx.box.2 0 _ rfl).1
  obtain ⟨L,hL⟩:∃ L,L=w2.heap.size:=⟨_,rfl⟩
  rw [<-hL] at HV ⊢
  clear HB2 HL2 hL lx HLK HOK
  go_wp2_with fail
  go_loopw [6,18] (fun ov iv wr=>∃ (k l:Nat) (vv:Value),vv=ov/\iv = .int .i64 k/\k<=n/\l<=k/\Sh (l=(blwL T.nodes (T.nodes.take k) id).length)/\Sh (Below V.heap.size V wr/\wr.ownsRow V.heap.size 3 1 vv l (ics (blwL T.nodes (T.nodes.take k) id)))) (fun _ iv _=>n - (intOf iv).toNat)
  case atStart=>exact ⟨0,0,_,rfl,rfl,Nat.zero_le _,Nat.le_refl _,⟨by simp [blwL]⟩,⟨Below.refl _ _,by simpa [blwL,ics] using World.ownsRow_nil V V.heap.size 3 1⟩⟩
  case round =>
   clear x0
   obtain ⟨k,l,ov,rfl,rfl,hk,hlk,HK,HW⟩:=hrel
   have hW:=HV.1.below HW.1.1
   have v0:=(hW.vr.2 0 _ rfl).1
   by_cases hlt:k<n
   ·have hkr:k<rs.length:=by rw [<-HN.1];exact hlt
    obtain ⟨b,off,rfl,lb,hc⟩:=TR.nat HM.1 (by omega)
    have hnk:=(hc k hkr).below hW.bx.bel lb
    obtain ⟨hkT,hge⟩:=HG.1 k hkr
    have hst:=blwL_take T.nodes T.nodes id k hkT
    obtain ⟨D1,o1,t1⟩:=hW.lk.m1
    have hfi:=HT.1.1.fid hkT
    have hmem:T.nodes[k] ∈ T.nodes:=List.getElem_mem hkT
    have f1:=(HI.1 _ hmem).1
    have htk:=t1 T.nodes[k].id
    rw [HE.1,hfi] at htk
    have hnd:=hW.lk.nd
    rw [HE.1] at hnd
    have hbe:blw T.nodes k id=(decide (id ≠ 0)&&qal T.nodes 15 rs[k].nd.id id):=by unfold blw;rw [getD_in hkT,hge]
    have hib:=fun W' (hb:Below wr.heap.size wr W')=>isBelow_any (hnd.below hb) HT.1 hkT id
    rw [hge] at hst f1 htk
    rw [hbe] at hib
    obtain ⟨r,hr⟩:∃ r,r=rs[k]:=⟨_,rfl⟩
    rw [<-hr] at hnk hst f1 htk hib
    have k1:=qcx keyI Tryz.underlying210 qgn (o1.alloc (.cells #[.int .i64 r.nd.id,.int .i64 r.nd.parent,.string r.nd.name,.bool r.nd.dir,.int .i64 r.nd.schema,.int .i64 r.nd.quota,.int .i64 r.nd.len,.slice r.loc r.nd.pieces.length r.cap,.int .i64 r.nd.writer] 87)) (qcc f1) htk 0
    rw [World.drewN_zero] at k1
    simp only [Option.map_some,qbt] at k1
    have hba:Below wr.heap.size wr (wr.alloc (.cells #[.int .i64 r.nd.id,.int .i64 r.nd.parent,.string r.nd.name,.bool r.nd.dir,.int .i64 r.nd.schema,.int .i64 r.nd.quota,.int .i64 r.nd.len,.slice r.loc r.nd.pieces.length r.cap,.int .i64 r.nd.writer] 87)):=(Below.refl _ _).alloc (Nat.le_refl _) _
    have HIB:=Sh.mk (hib _ hba)
    have HBA:=Sh.mk hba
    have HST:=Sh.mk hst
    have lv:=hW.vr.1
    have lb':b<wr.heap.size:=Nat.lt_of_lt_of_le lb hW.bx.bel.size
    have k0:(0:Int)<=(k:Int):=by omega
    have k2:(k:Int)<(n:Int):=by omega
    have hsv:V.heap.size<=wr.heap.size:=HW.1.1.size
    have HOW:=Sh.mk (HW.1.2.alloc (.cells #[.int .i64 r.nd.id,.int .i64 r.nd.parent,.string r.nd.name,.bool r.nd.dir,.int .i64 r.nd.schema,.int .i64 r.nd.quota,.int .i64 r.nd.len,.slice r.loc r.nd.pieces.length r.cap,.int .i64 r.nd.writer] 87))
    obtain ⟨c0,c1,c2,c3,c4,c5,c6,c7,c8⟩:=hnk
    obtain ⟨bb,hbb⟩:∃ bb,bb=(decide (id ≠ 0)&&qal T.nodes 15 r.nd.id id):=⟨_,rfl⟩
    rw [<-hbb] at HIB HST
    clear hc hr hst hfi hmem f1 htk hnd hbe hib hba o1 t1 hW hge hbb
    cases bb with
    | false =>
     have HS':Sh (blwL T.nodes (T.nodes.take (k+1)) id=blwL T.nodes (T.nodes.take k) id):=⟨by rw [HST.1];simp⟩
     go_wp2_with (go_at_call 191;refine HIB.1.mono ?_;rintro e w9 ⟨rfl,rfl⟩)
     go_roundw
     case rel=>exact ⟨k+1,l,ov,rfl,by go_num,by omega,by omega,⟨by rw [HS'.out];exact HK.1⟩,⟨HW.1.1.trans (HBA.1.mono hsv),by rw [HS'.out];exact HOW.1⟩⟩
     case measure=>simp [intOf];omega
    | true =>
     have HS':Sh (blwL T.nodes (T.nodes.take (k+1)) id=blwL T.nodes (T.nodes.take k) id++[r.nd.id]):=⟨by rw [HST.1];simp⟩
     go_upto_region 9 with (go_at_call 191;refine HIB.1.mono ?_;rintro e w9 ⟨rfl,rfl⟩)
     refine qaa (fun W=>Below wr.heap.size wr W/\W.cell? ⟨wr.heap.size,0,none⟩=some (.int .i64 r.nd.id)) ⟨HBA.1,by simp⟩ ?_
     intro W9 hW9
     obtain ⟨hb9,d0⟩:=hW9
     have ho9:=HW.1.2.kept (row:=none) ⟨hb9.os,hb9.tape,hb9.output,hb9.size,fun k hk _=>hb9.block k hk⟩ (Classical.em _)
     have hs9:V.heap.size<=W9.heap.size:=Nat.le_trans hsv hb9.size
     have HB9:=Sh.mk hb9
     clear hb9 HBA HOW c0 c1 c2 c3 c4 c5 c6 c7 c8 k1 v0
     go_wp2_with (at_builtin;refine wpList_append_own _ rfl _ _ 49 rfl V.heap.size 3 t0 (.int .i64 0) 1 8 Tryz.underlying49 ht0 hty0 hty1 hty2 rfl (by decide) _ _ _ rfl (ho9.alloc _) ⟨W9.heap.size,0,none⟩ 1 1 [.int .i64 r.nd.id] rfl rfl (cell_one_new _ _ _) ?c2 ?c3 ?c4 ?c5 ?_)
     case c2=>first | rfl | (intro u hu;simp at hu;subst hu;rfl)
     case c3=>unfold maxLen;omega
     case c4=>omega
     case c5=>first | omega | (simp;omega)
     intro v' w10 ho10 hgrow _
     rw [qov,<-HS'.out] at ho10
     have HGZ:Sh (Below V.heap.size V w10/\w10.ownsRow V.heap.size 3 1 v' (l+1) (ics (blwL T.nodes (T.nodes.take (k+1)) id))):=⟨((HW.1.1.trans (HB9.1.mono hsv)).alloc hs9 _).grown hgrow (by simp;omega) (fun j hj=>(ho9.lt j hj).1),ho10⟩
     clear hgrow ho10 ho9
     go_wp2_with fail
     go_roundw
     case rel=>exact ⟨k+1,l+1,v',rfl,by go_num,by omega,by omega,⟨by rw [HS'.out,List.length_append,List.length_singleton,<-HK.1]⟩,HGZ⟩
     case measure=>simp [intOf];omega
   ·have k1:¬ (k:Int)<(n:Int):=by omega
    have hall:T.nodes.take k=T.nodes:=List.take_of_length_le (by have:=HL.1;omega)
    have ho:=HW.1.2
    have hlen:=HK.1
    rw [hall,<-HRR.1] at ho hlen
    have HO:=Sh.mk ho
    have HBV:Sh (Below w.heap.size w wr):=⟨hW.bx.bel⟩
    have hsz:w.heap.size<=V.heap.size:=HV.1.bx.bel.size
    clear ho hall hW
    go_wp2_with fail
    go_ret
    exact ⟨_,rfl,qft hlen.symm (qhu HO.1 hsz),HBV.1⟩
def usedP:List NM->List Int->Int
 | [],_=>0
 | n::r,L=>(if L.contains n.id then n.len else 0)+usedP r L
theorem usedP_append (a b:List NM) (L:List Int):usedP (a++b) L=usedP a L+usedP b L:=by
 induction a with
 | nil=>simp [usedP]
 | cons n a ih=>simp only [List.cons_append,usedP,ih];omega
theorem usedP_take (ns:List NM) (L:List Int) (k:Nat) (h:k<ns.length):usedP (ns.take (k+1)) L=usedP (ns.take k) L+if L.contains ns[k].id then ns[k].len else 0:=by
 rw [List.take_succ_eq_append_getElem h,usedP_append]
 simp [usedP]
theorem qnn (ns:List NM):usedP ns []=0:=by
 induction ns with
 | nil=>rfl
 | cons n r ih=>simp [usedP,ih]
theorem Asc.mem_at (h:Asc ns) {n:NM} (hn:n ∈ ns):ns.getD (atI ns n.id).toNat default=n:=by
 obtain ⟨i,hi,rfl⟩:=List.mem_iff_getElem.1 hn
 rw [qnp,h.fid hi]
 simp [hi]
theorem Asc.mem_eq (h:Asc ns) {m n:NM} (hm:m ∈ ns) (hn:n ∈ ns) (e:m.id=n.id):m=n:=by
 rw [<-h.mem_at hm,<-h.mem_at hn,e]
theorem usedP_is (T:TM) (id:Int):usedP T.nodes (qap T id)=usedX T id:=by
 unfold usedX
 cases ht:qae T with
 | false =>
  have:qap T id=[]:=by unfold qap;rw [if_neg (by rw [ht];simp)]
  rw [this,qnn]
  rfl
 | true =>
  have ha:=(qdk ht).1
  rw [<-qry ht]
  unfold blwL
  generalize hq:(fun n:NM=>decide (id ≠ 0)&&qal T.nodes 15 n.id id)=q
  have hc:∀ n ∈ T.nodes,((T.nodes.filter q).map NM.id).contains n.id=q n:=fun n hn=>by
   rw [Bool.eq_iff_iff]
   simp only [List.contains_iff_mem,List.mem_map,List.mem_filter]
   constructor
   ·rintro ⟨m,⟨hm,hqm⟩,e⟩
    rw [<-ha.mem_eq hm hn e]
    exact hqm
   ·exact fun hqn=>⟨n,⟨hn,hqn⟩,rfl⟩
  have key:∀ M:List NM,(∀ n ∈ M,n ∈ T.nodes)->usedP M ((T.nodes.filter q).map NM.id)=usedL T.nodes ((M.filter q).map NM.id):=by
   intro M
   induction M with
   | nil=>intro _;rfl
   | cons n r ih =>
    intro hM
    have hn:=hM n (by simp)
    have ih':=ih fun m hm=>hM m (by simp [hm])
    unfold usedP
    rw [hc n hn,ih']
    cases hqn:q n with
    | true =>
     rw [List.filter_cons_of_pos hqn,List.map_cons]
     conv=>rhs;unfold usedL
     rw [ha.mem_at hn]
     simp
    | false =>
     rw [List.filter_cons_of_neg (by simp [hqn])]
     simp
  exact key T.nodes fun n hn=>hn
theorem usedP_le (T:TM) (id:Int) (k:Nat):0<=usedP (T.nodes.take k) (qap T id)/\usedP (T.nodes.take k) (qap T id)<=14000:=by
 cases ht:qae T with
 | false =>
  have:qap T id=[]:=by unfold qap;rw [if_neg (by rw [ht];simp)]
  rw [this,qnn]
  omega
 | true =>
  have hall:∀ M:List NM,(∀ n ∈ M,0<=n.len/\n.len<=1000)->0<=usedP M (qap T id)/\usedP M (qap T id)<=1000*M.length:=by
   intro M
   induction M with
   | nil=>intro _;simp [usedP]
   | cons n r ih =>
    intro hM
    have h1:=hM n (by simp)
    have h2:=ih fun m hm=>hM m (by simp [hm])
    simp only [usedP,List.length_cons]
    push_cast
    split <;> omega
  have h3:=hall (T.nodes.take k) fun n hn=>by
   obtain ⟨i,hi,rfl⟩:=List.mem_iff_getElem.1 (List.mem_of_mem_take hn)
   have:=qlu (qcm ht hi)
   rw [getD_in hi] at this
   exact this
  have h4:=qhb ht
  have h5:(T.nodes.take k).length<=14:=by simp;omega
  omega
theorem implIndex (cap:Nat) (x:Int) (hr:CRow w a (ics xs)) (hl:xs.length<=1048576):Calls Tryz.prog 190 #[.slice a xs.length cap,.int .i64 x] w fun e w'=>(∃ i:Int,e = .returned (.int .i64 i)/\Sh (decide (0<=i)=xs.contains x))/\w'=w:=by
 obtain ⟨n,hn⟩:∃ n,n=xs.length:=⟨_,rfl⟩
 rw [<-hn] at hl ⊢
 have HN:=Sh.mk hn
 have HR:=Sh.mk hr
 clear hn hr
 go_enter Tryz.func190,Tryz.ntmps190
 go_wp2_with fail
 go_loopw [8] (fun i wr=>∃ k:Nat,i = .int .i64 k/\k<=n/\Sh (∀ j (hj:j<xs.length),j<k->xs[j] ≠ x)/\wr=w) (fun i _=>n - (intOf i).toNat)
 case atStart=>exact ⟨0,rfl,Nat.zero_le _,⟨fun _ _ h=>absurd h (Nat.not_lt_zero _)⟩,rfl⟩
 case round =>
  obtain ⟨k,rfl,hk,hno,rfl⟩:=hrel
  by_cases hlt:k<n
  ·have hkx:k<xs.length:=by rw [<-HN.1];exact hlt
   obtain ⟨b,off,rfl,lb,hc⟩:=HR.1 (by simp [ics];omega)
   have e0:=hc k (.int .i64 xs[k]) (by simp [ics,hkx])
   have k0:(0:Int)<=(k:Int):=by omega
   have k1:(k:Int)<(n:Int):=by omega
   obtain ⟨y,hy⟩:∃ y,y=xs[k]:=⟨_,rfl⟩
   rw [<-hy] at e0
   have HY:=Sh.mk hy
   clear hc hy
   by_cases hxy:x=y
   ·have hxy':(x==y)=true:=by simp [hxy]
    have HC:Sh (xs.contains x=true):=⟨by rw [hxy,HY.1];simp⟩
    clear hxy
    go_wp2_with fail
    go_ret
    exact ⟨⟨k,rfl,⟨by rw [HC.1];simp⟩⟩,rfl⟩
   ·go_wp2_with fail
    go_roundw
    case rel =>
     refine ⟨k+1,by go_num,by omega,⟨fun j hj hjk=>?_⟩,trivial⟩
     rcases Nat.lt_succ_iff_lt_or_eq.1 hjk with h | h
     ·exact hno.1 j hj h
     ·subst h
      rw [<-HY.1]
      exact fun e=>hxy e.symm
    case measure=>simp [intOf];omega
  ·have hlt':¬ (k:Int)<(n:Int):=by omega
   have HC:Sh (xs.contains x=false):=⟨by
    refine Bool.eq_false_iff.2 fun hc=>?_
    simp only [List.contains_iff_mem] at hc
    obtain ⟨j,hj,e⟩:=List.mem_iff_getElem.1 hc
    exact hno.1 j hj (by have:=HN.1;omega) e⟩
   go_wp2_with fail
   go_ret
   exact ⟨⟨-1,rfl,⟨by have:=HC.1;simp at this;simp [this]⟩⟩,rfl⟩
theorem qex (cap:Nat) (x:Int) (hr:CRow w a (ics xs)) (hl:xs.length<=1048576):Calls Tryz.prog 182 #[.slice a xs.length cap,.int .i64 x] w fun e w'=>e = .returned (.bool (xs.contains x))/\w'=w:=by
 have HC:=Sh.mk (implIndex cap x hr hl)
 generalize xs.contains x=c at *
 generalize xs.length=n at *
 clear hr
 go_enter Tryz.func182,Tryz.ntmps182
 go_wp2_with fail
 refine HC.1.mono ?_
 rintro e w1 ⟨⟨i,rfl,HI⟩,rfl⟩
 go_wp2_with fail
 go_ret
 exact ⟨by rw [<-HI.1];rfl,rfl⟩
theorem qgp (w:World) (v:Value) (T:TM) (lo hi:Nat) (id:Int) (h:TSee w v T lo hi) (hf:NFit T) (hI:NInt T.nodes):Calls Tryz.prog 184 #[v,.int .i64 id] w fun e w'=>e = .returned (.int .i64 (usedX T id))/\Below w.heap.size w w':=by
 have hsee:=h
 obtain ⟨a,cap,rs,rfl,hr,hm⟩:=h
 have hlen:rs.length=T.nodes.length:=by rw [<-hr,qaf]
 have hl:rs.length<=1048576:=by unfold NFit at hf;omega
 have hget:∀ j (hj:j<rs.length),∃ hj':j<T.nodes.length,T.nodes[j]=rs[j].nd:=fun j hj=>by
  refine ⟨by rw [<-hr,qaf];exact hj,?_⟩
  rw [List.getElem_of_eq hr.symm]
  simp [nds]
 obtain ⟨n,hn⟩:∃ n,n=rs.length:=⟨_,rfl⟩
 obtain ⟨nx,hnx⟩:∃ nx,nx=T.next:=⟨_,rfl⟩
 rw [<-hn,<-hnx] at hsee ⊢
 have hbo:=fun W (hb:Below w.heap.size w W)=>qjh W _ T lo hi id (hsee.below hb) hf hI
 rw [<-hn] at hl hlen
 rw [<-usedP_is]
 have hle:=usedP_le T id
 have hbl:(qap T id).length<=1048576:=by have:=qed T id;omega
 generalize qap T id=X at *
 obtain ⟨R,hR⟩:∃ R,R=usedP T.nodes X:=⟨_,rfl⟩
 rw [<-hR]
 unfold IPost at hbo
 have HBO:=Sh.mk hbo
 have HM:=Sh.mk hm
 have HN:=Sh.mk hn
 have HL:=Sh.mk hlen
 have HG:=Sh.mk hget
 have HR:=Sh.mk hR
 have HLE:=Sh.mk hle
 clear hbo hr hm hsee hn hnx hlen hget hR hI hf hle
 go_enter Tryz.func184,Tryz.ntmps184
 go_wp2_with fail
 refine (HBO.1 _ ((Below.refl _ _).alloc (Nat.le_refl _) _)).mono ?_
 rintro e w1 ⟨u,rfl,hA,hb1⟩
 obtain ⟨ua,ucap,rfl,hcr⟩:=hA.crow
 have hbx:=(BX.new w a n cap nx 42).below hb1
 have HBX:=Sh.mk hbx
 have x0:=(hbx.box.2 0 _ rfl).1
 have hco:=fun W (hb:Below w1.heap.size w1 W) (x:Int)=>qex ucap x (CRow.stays hcr hb) hbl
 obtain ⟨xn,hxn⟩:∃ xn,xn=X.length:=⟨_,rfl⟩
 rw [<-hxn] at hco ⊢
 have HCO:=Sh.mk hco
 clear hA hb1 hcr hbx HBO hco hxn
 go_wp2_with fail
 go_loopw [6,15] (fun sv iv wr=>∃ k:Nat,sv = .int .i64 (usedP (T.nodes.take k) X)/\iv = .int .i64 k/\k<=n/\Sh (Below w1.heap.size w1 wr)) (fun _ iv _=>n - (intOf iv).toNat)
 case atStart=>exact ⟨0,by simp [usedP],rfl,Nat.zero_le _,⟨Below.refl _ _⟩⟩
 case round =>
  clear x0
  obtain ⟨k,rfl,rfl,hk,HW⟩:=hrel
  have hlek:=HLE.1 k
  by_cases hlt:k<n
  ·have hkr:k<rs.length:=by rw [<-HN.1];exact hlt
   have hW:=HBX.1.below HW.1
   obtain ⟨b,off,rfl,lb,hc⟩:=TR.nat HM.1 (by omega)
   have hnk:=(hc k hkr).below hW.bel lb
   obtain ⟨hkT,hge⟩:=HG.1 k hkr
   have hst:=usedP_take T.nodes X k hkT
   have hle1:=HLE.1 (k+1)
   rw [hst] at hle1
   rw [hge] at hst hle1
   obtain ⟨r,hr⟩:∃ r,r=rs[k]:=⟨_,rfl⟩
   rw [<-hr] at hnk hst hle1
   obtain ⟨sm,hsm⟩:∃ sm,sm=usedP (T.nodes.take k) X:=⟨_,rfl⟩
   rw [<-hsm] at hlek hst hle1 ⊢
   have HST:=Sh.mk hst
   have lb':b<wr.heap.size:=Nat.lt_of_lt_of_le lb hW.bel.size
   have k0:(0:Int)<=(k:Int):=by omega
   have k1:(k:Int)<(n:Int):=by omega
   have hba:Below w1.heap.size w1 (wr.alloc (.cells #[.int .i64 r.nd.id,.int .i64 r.nd.parent,.string r.nd.name,.bool r.nd.dir,.int .i64 r.nd.schema,.int .i64 r.nd.quota,.int .i64 r.nd.len,.slice r.loc r.nd.pieces.length r.cap,.int .i64 r.nd.writer] 87)):=HW.1.alloc HW.1.size _
   have hcc:=HCO.1 _ hba r.nd.id
   have HBA:=Sh.mk hba
   obtain ⟨c0,c1,c2,c3,c4,c5,c6,c7,c8⟩:=hnk
   clear hc hr hst hW hba hsm hge
   cases hct:X.contains r.nd.id with
   | true =>
    rw [hct] at hcc HST hle1
    have HCC:=Sh.mk hcc
    have HS':Sh (usedP (T.nodes.take (k+1)) X=sm+r.nd.len):=⟨by rw [HST.1];simp⟩
    have hle2:0<=sm+r.nd.len/\sm+r.nd.len<=14000:=by simpa using hle1
    clear hct hcc hle1
    go_wp2_with (go_at_call 182;refine HCC.1.mono ?_;rintro e w9 ⟨rfl,rfl⟩)
    go_roundw
    case rel=>exact ⟨k+1,by rw [HS'.out],by go_num,by omega,HBA⟩
    case measure=>simp [intOf];omega
   | false =>
    rw [hct] at hcc HST
    have HCC:=Sh.mk hcc
    have HS':Sh (usedP (T.nodes.take (k+1)) X=sm):=⟨by rw [HST.1];simp⟩
    clear hct hcc hle1
    go_wp2_with (go_at_call 182;refine HCC.1.mono ?_;rintro e w9 ⟨rfl,rfl⟩)
    go_roundw
    case rel=>exact ⟨k+1,by rw [HS'.out],by go_num,by omega,HBA⟩
    case measure=>simp [intOf];omega
  ·have k1:¬ (k:Int)<(n:Int):=by omega
   have hall:T.nodes.take k=T.nodes:=List.take_of_length_le (by have:=HL.1;omega)
   have HE:Sh (usedP (T.nodes.take k) X=R):=⟨by rw [hall,HR.1]⟩
   have HB:Sh (Below w.heap.size w wr):=⟨(HBX.1.below HW.1).bel⟩
   clear hall
   go_wp2_with fail
   go_ret
   exact ⟨by rw [<-HE.1];rfl,HB.1⟩
theorem tree_quota (h:qae T=true) {i:Nat} (hi:i<T.nodes.length):0<=T.nodes[i].quota/\T.nodes[i].quota<=1000/\(T.nodes[i].dir=false->T.nodes[i].quota=0):=by
 have hn:=qcm h hi
 cases hd:T.nodes[i].dir with
 | true =>
  have:=qib hn (by rw [getD_in hi];exact hd)
  rw [getD_in hi] at this
  exact ⟨this.1,this.2,fun h=>by cases h⟩
 | false =>
  unfold nodeOk at hn
  simp only [Bool.and_eq_true] at hn
  have h3:=hn.1.2
  rw [getD_in hi,if_neg (by rw [hd];simp)] at h3
  unfold fileOk at h3
  simp only [Bool.and_eq_true,beq_iff_eq] at h3
  have:T.nodes[i].quota=0:=h3.1.1.1.1.1.2
  exact ⟨by omega,by omega,fun _=>this⟩
theorem implRoomFor (w:World) (v:Value) (T:TM) (lo hi:Nat) (id m:Int) (h:TSee w v T lo hi) (hf:NFit T) (hI:NInt T.nodes) (hid:(Lit.int .i64 id).wf=true):Calls Tryz.prog 185 #[v,.int .i64 id,.int .i64 m] w fun e w'=>e = .returned (.bool (roomX T id m))/\Below w.heap.size w w':=by
 have hsee:=h
 obtain ⟨a,cap,rs,rfl,hr,hm⟩:=h
 obtain ⟨n,hn⟩:∃ n,n=rs.length:=⟨_,rfl⟩
 obtain ⟨nx,hnx⟩:∃ nx,nx=T.next:=⟨_,rfl⟩
 rw [<-hn,<-hnx] at hsee ⊢
 have hat:=fun W (hb:Below w.heap.size w W)=>qhn W _ T lo hi id (hsee.below hb) hf hI hid
 have hub:=fun (c:Int) W (hb:Below w.heap.size w W)=>qgp W _ T lo hi c (hsee.below hb) hf hI
 have HAT:=Sh.mk hat
 have HUB:=Sh.mk hub
 obtain ⟨R,hR⟩:∃ R,R=roomX T id m:=⟨_,rfl⟩
 rw [<-hR]
 have HR:=Sh.mk hR
 clear hat hub hr hm hsee hn hnx hR hf hI hid
 go_enter Tryz.func185,Tryz.ntmps185
 go_wp2_with fail
 refine (HAT.1 _ ((Below.refl _ _).alloc (Nat.le_refl _) _)).mono ?_
 rintro e w1 ⟨o,rfl,hb1,hcase⟩
 have HB:=Sh.mk ((BX.new w a n cap nx 42).below hb1)
 clear hb1 HAT
 rcases hcase with ⟨ht,rfl⟩ | ⟨ht,G,rfl,hnd⟩
 ·have HE:Sh (R=false):=⟨by rw [HR.1];unfold roomX;rw [if_neg (by rw [ht];decide)]⟩
  rw [qbu]
  clear ht
  go_wp2_with fail
  go_ret
  exact ⟨by rw [HE.1];rfl,HB.1.bel⟩
 ·have HT:=Sh.mk (qdk ht)
  have HQ:=Sh.mk (fun i hi=>tree_quota ht (i:=i) hi)
  have HU:=Sh.mk (fun c=>qre T c)
  have HND:=Sh.mk hnd
  have HE:Sh (R=roomF T m 15 0 id):=⟨by rw [HR.1];unfold roomX;rw [if_pos ht]⟩
  clear hnd ht HR
  cases hf:fid T.nodes id with
  | none =>
   have HF:Sh (R=false):=⟨by rw [HE.1];exact qfx hf⟩
   rw [Option.map_none,qbu]
   clear hf
   go_wp2_with fail
   go_ret
   exact ⟨by rw [HF.1];rfl,HB.1.bel⟩
  | some i0 =>
   obtain ⟨hi0,ei0⟩:=qbw hf
   obtain ⟨d0,hd0,hu0⟩:=HT.1.2 i0 hi0
   have HU0:=Sh.mk hu0
   rw [Option.map_some,qbt]
   have HI0:Sh (roomF T m (d0+2+(13 - d0)) 0 (T.nodes.getD i0 default).id=R):=⟨by rw [HE.1,getD_in hi0,ei0,show d0+2+(13 - d0)=15 by omega]⟩
   clear hf ei0 hu0 HE
   go_wp2_with fail
   go_loopg [7] (d0+1) (fun q p wr=>Sh (BX w wr a n cap nx/\Below w1.heap.size w1 wr)/\(Sh (p = .pointer none/\R=true)\/Sh (∃ (j d r st:Nat),p = .pointer (some ⟨G j,0,none⟩)/\d+1<=q/\j<T.nodes.length/\Ups T.nodes j d/\roomF T m (d+2+r) st (T.nodes.getD j default).id=R)))
   case atStart=>exact ⟨⟨HB.1,Below.refl _ _⟩,.inr ⟨i0,d0,13 - d0,0,rfl,Nat.le_refl _,hi0,HU0.1,HI0.1⟩⟩
   case round =>
    clear HI0 HB
    obtain ⟨HB,hrel⟩:=hrel
    rcases hrel with ⟨rfl,hR0⟩ | ⟨j,d,r,st,rfl,hdm,hj,hu,h1⟩
    ·have HE0:=Sh.mk hR0
     clear hR0
     go_wp2_with fail
     go_ret
     exact ⟨by rw [HE0.1];rfl,HB.1.1.bel⟩
    ·have hnw:=HND.1.below HB.1.2
     have c0:=(hnw.cells j hj).1
     have c5:=(hnw.cells j hj).2.2.2.2.2.1
     have lj:=(hnw.cells j hj).2.2.2.2.2.2
     have hf:=HT.1.1.fid hj
     have c9:=hnw.above j hj hf
     have hge:=getD_in hj
     have hq:=HQ.1 j hj
     obtain ⟨x,hx⟩:∃ x,x=T.nodes[j]:=⟨_,rfl⟩
     rw [<-hx] at c0 c5 c9 hge hf hq
     rw [hge,show d+2+r=(d+1+r)+1 by omega,qlv (i:=j) hf,hge] at h1
     have hus:=HU.1 x.id
     have x0:=(HB.1.1.box.2 0 _ rfl).1
     have x1:=(HB.1.1.box.2 1 _ rfl).1
     have lx:=HB.1.1.box.1
     have hcu:=fun X=>qfn (w:=wr) (fun W' (hb:Below wr.heap.size wr W')=>HUB.1 x.id W' (HB.1.1.bel.trans (hb.mono HB.1.1.bel.size))) X
     have HCU:=Sh.mk hcu
     have HH:=Sh.mk (And.intro h1 (And.intro hu (And.intro hge hq)))
     obtain ⟨o,ho⟩:∃ o,o=fid T.nodes x.parent:=⟨_,rfl⟩
     rw [<-ho] at c9
     have HO:=Sh.mk ho
     obtain ⟨us,hus'⟩:∃ us,us=usedX T x.id:=⟨_,rfl⟩
     rw [<-hus'] at hus HCU HH
     clear ho h1 hu hge hf hx hcu hnw hus'
     have g0:∀ X:Grow wr,X.val.cell? ⟨w.heap.size,0,none⟩=some (.slice a n cap):=fun X=>X.cell x0 lx
     have g1:∀ X:Grow wr,X.val.cell? ⟨w.heap.size,1,none⟩=some (.int .i64 nx):=fun X=>X.cell x1 lx
     have g2:∀ X:Grow wr,X.val.cell? ⟨G j,0,none⟩=some (.int .i64 x.id):=fun X=>X.cell c0 lj
     by_cases hq0:x.quota=0
     ·have HNX:Sh (roomF T m (d+1+r) (st+1) x.parent=R):=⟨by have:=HH.1.1;rw [if_neg (fun hc=>by omega)] at this;exact this⟩
      have hqb:(x.quota != 0)=false:=by simp [hq0]
      clear hq hq0
      go_upto_region 7 with fail
      refine qai (by kernel_rfl) (by kernel_rfl) ?_
      repeat (go_big_quiet_step (first | (go_at_call 184;exact HCU.1 _)))
      refine wpQuiet_nil ?_
      rintro _ ⟨X,rfl⟩
      have u9:=X.cell c9 lj
      clear g0 g1 g2
      cases o with
      | none =>
       simp only [Option.map_none,qbu] at u9
       go_wp2_with fail
       go_roundg (gk - 1)
       case measure=>omega
       case rel =>
        refine ⟨⟨HB.1.1.below X.bel,HB.1.2.trans (X.bel.mono HB.1.2.size)⟩,.inl ⟨⟨rfl,?_⟩⟩⟩
        rw [<-HNX.1,show d+1+r=(d+r)+1 by omega,qfx HO.1.symm]
        simp
      | some k =>
       simp only [Option.map_some,qbt] at u9
       go_wp2_with fail
       go_roundg (gk - 1)
       case measure=>omega
       case rel =>
        refine ⟨⟨HB.1.1.below X.bel,HB.1.2.trans (X.bel.mono HB.1.2.size)⟩,.inr ⟨?_⟩⟩
        obtain ⟨h1,hu,hge,hq⟩:=HH.1
        cases hu with
        | root =>
         have e0:=HT.1.1.2.2.2
         have h4:=HO.1
         rw [hge] at e0
         rw [e0,HT.1.1.zero] at h4
         cases h4
        | @step _ k' d' _ _ hk hu' =>
         rw [hge,<-HO.1] at hk
         cases hk
         obtain ⟨hkl,ek⟩:=qbw HO.1.symm
         refine ⟨k,d',r,st+1,rfl,by omega,hkl,hu',?_⟩
         rw [getD_in hkl,ek,<-HNX.1,show d'+2+r=d'+1+1+r by omega]
     ·have hqb:(x.quota != 0)=true:=by simp [hq0]
      have q1:0<=x.quota:=hq.1
      have q2:x.quota<=1000:=hq.2.1
      have hdir:x.dir=true:=by
       cases hd:x.dir with
       | true=>rfl
       | false=>exact absurd (hq.2.2 hd) hq0
      obtain ⟨u1,u2⟩:=hus
      by_cases hlt:x.quota - us<m
      ·have HF:Sh (R=false):=⟨by have:=HH.1.1;rw [if_pos ⟨hdir,by omega,hlt⟩] at this;exact this.symm⟩
       clear hdir hq hq0
       go_upto_region 7 with fail
       refine qai (by kernel_rfl) (by kernel_rfl) ?_
       repeat (go_big_quiet_step (first | (go_at_call 184;exact HCU.1 _)))
       refine wpQuiet_nil ?_
       rintro _ ⟨X,rfl⟩
       go_wp2_with fail
       go_ret
       exact ⟨by rw [HF.1];rfl,(HB.1.1.below X.bel).bel⟩
      ·have HNX:Sh (roomF T m (d+1+r) (st+1) x.parent=R):=⟨by have:=HH.1.1;rw [if_neg (fun hc=>hlt hc.2.2)] at this;exact this⟩
       clear hdir hq hq0
       go_upto_region 7 with fail
       refine qai (by kernel_rfl) (by kernel_rfl) ?_
       repeat (go_big_quiet_step (first | (go_at_call 184;exact HCU.1 _)))
       refine wpQuiet_nil ?_
       rintro _ ⟨X,rfl⟩
       have u9:=X.cell c9 lj
       clear g0 g1 g2
       cases o with
       | none =>
        simp only [Option.map_none,qbu] at u9
        go_wp2_with fail
        go_roundg (gk - 1)
        case measure=>omega
        case rel =>
         refine ⟨⟨HB.1.1.below X.bel,HB.1.2.trans (X.bel.mono HB.1.2.size)⟩,.inl ⟨⟨rfl,?_⟩⟩⟩
         rw [<-HNX.1,show d+1+r=(d+r)+1 by omega,qfx HO.1.symm]
         simp
       | some k =>
        simp only [Option.map_some,qbt] at u9
        go_wp2_with fail
        go_roundg (gk - 1)
        case measure=>omega
        case rel =>
         refine ⟨⟨HB.1.1.below X.bel,HB.1.2.trans (X.bel.mono HB.1.2.size)⟩,.inr ⟨?_⟩⟩
         obtain ⟨h1,hu,hge,hq⟩:=HH.1
         cases hu with
         | root =>
          have e0:=HT.1.1.2.2.2
          have h4:=HO.1
          rw [hge] at e0
          rw [e0,HT.1.1.zero] at h4
          cases h4
         | @step _ k' d' _ _ hk hu' =>
          rw [hge,<-HO.1] at hk
          cases hk
          obtain ⟨hkl,ek⟩:=qbw HO.1.symm
          refine ⟨k,d',r,st+1,rfl,by omega,hkl,hu',?_⟩
          rw [getD_in hkl,ek,<-HNX.1,show d'+2+r=d'+1+1+r by omega]
end Go.Proofs.YtoglebfiobofoaaGreatDoor
/- CtA: . -/
namespace Go.Proofs.YtoglebfiobofoaaGreatDoor
set_option maxRecDepth 100000
set_option maxHeartbeats 16000000
open Go.RowKit
attribute [local go_sem ↓] Go.wp_at_zero Go.wp_at_succ
variable {cap n:Nat} {a:Option Addr} {w:World}
theorem qin:(Tryz.prog.info? 87).map (fun i=>(i.zero,i.size,i.bytes))=some (some (.agg #[.int .i64 0,.int .i64 0,.string ⟨#[]⟩,.bool false,.int .i64 0,.int .i64 0,.int .i64 0,.slice none 0 0,.int .i64 0]),9,96):=by kernel_rfl
theorem eqNonePiece (n c:Nat) (W:World):Sem.run Tryz.prog (binOp BinOp.eql 85 (.slice none n c) (.slice none 0 0)) W = .ok (.bool true) W:=by kernel_rfl
theorem eqSomePiece (q:Addr) (n c:Nat) (W:World):Sem.run Tryz.prog (binOp BinOp.eql 85 (.slice (some q) n c) (.slice none 0 0)) W = .ok (.bool false) W:=by kernel_rfl
theorem eqNoneInode (n c:Nat) (W:World):Sem.run Tryz.prog (binOp BinOp.eql 40 (.slice none n c) (.slice none 0 0)) W = .ok (.bool true) W:=by kernel_rfl
theorem eqSomeInode (q:Addr) (n c:Nat) (W:World):Sem.run Tryz.prog (binOp BinOp.eql 40 (.slice (some q) n c) (.slice none 0 0)) W = .ok (.bool false) W:=by kernel_rfl
attribute [local go_sem] eqNonePiece eqSomePiece eqNoneInode eqSomeInode
def qhg (L:List Value) (n:Nat) (w:World) (e:Ending) (w':World):Prop:=∃ (a:Option Addr) (c:Nat),e = .returned (.slice a n c)/\w'.ownsRow w.heap.size 138 2 (.slice a n c) n L/\Below w.heap.size w w'
theorem cloneP_any {ps:List PM} (h:CRow w a (pcs ps)) (hn:n=ps.length) (hl:n<=1048576):Calls Tryz.prog 118 #[.slice a n cap] w fun e w'=>qhg (pcs ps) n w e w':=by
 have hv:∀ u ∈ pcs ps,u.oneCell'=true:=by
  intro u hu
  obtain ⟨y,_,hy⟩:=List.mem_flatMap.1 hu
  simp [qfe] at hy;rcases hy with rfl | rfl <;> rfl
 have hL:(pcs ps).length=n*2:=by rw [qhr,hn]
 have HV:=Sh.mk hv
 generalize pcs ps=L at h HV hL ⊢
 clear hn hv
 obtain ⟨j0,hjn,hy0,hy1,hy2⟩:=info_parts qfl
 have HL:=Sh.mk hL
 clear hL
 rcases Nat.eq_zero_or_pos n with h0 | hp
 ·have hL0:L=[]:=List.eq_nil_of_length_eq_zero (by rw [HL.1,h0,Nat.zero_mul])
  subst h0
  subst hL0
  clear h
  cases a with
  | none =>
   go_enter Tryz.func118,Tryz.ntmps118
   go_wp2_with fail
   go_ret
   exact ⟨none,0,rfl,World.ownsRow_nil w w.heap.size 138 2,Below.refl _ _⟩
  | some q =>
   have hap:∀ (W:World) (g:Addr),∀ ty,(Builtin.append_ #[85,85] ty #[.slice (some g) 0 0,.slice (some q) 0 cap]).run Tryz.prog W = .ok (.slice (some g) 0 0) W:=fun W g ty =>
    run_append_nothing W _ _ _ _ j0 Tryz.underlying85 hjn (some g) 0 0 (Nat.le_refl _) _ (Src.ofSlice W Tryz.underlying85 q 0 cap [] (by simp) (by simp) (by simp))
   have HAP:=Sh.mk hap
   clear hap
   go_enter Tryz.func118,Tryz.ntmps118
   go_wp2_with (at_builtin;refine qbo _ rfl _ _ 85 rfl _ _ rfl rfl (HAP.1 _ _) ?_)
   go_ret
   exact ⟨some ⟨w.heap.size,0,none⟩,0,rfl,World.ownsRow_made (e:=138) (size:=2) (base:=w.heap.size) w #[] 0 (Nat.le_refl _) (by decide) rfl,(Below.refl _ _).alloc (Nat.le_refl _) _⟩
 ·have hLp:0<L.length:=by rw [HL.1];omega
  obtain ⟨pb,poff,rfl,lpb,hpc⟩:=h hLp
  have HPC:=Sh.mk hpc
  clear hpc h hLp
  go_enter Tryz.func118,Tryz.ntmps118
  have hmade:=World.ownsRow_made (e:=138) (size:=2) (base:=w.heap.size) w #[] 0 (Nat.le_refl _) (by decide) rfl
  go_wp2_with (at_builtin;refine wpList_append_own _ rfl _ _ 85 rfl w.heap.size 138 j0 _ 2 16 Tryz.underlying85 hjn hy0 hy1 hy2 rfl (by decide) _ 0 [] rfl hmade ⟨pb,poff,none⟩ n cap L rfl ?c0 ?c1 ?c2 ?c3 ?c4 ?c5 ?_)
  case c0=>first | exact HL.1 | (rw [HL.1];omega)
  case c1 =>
   intro i u hu
   have e:(⟨pb,poff,none⟩:Addr).add i=⟨pb,poff+i,none⟩:=by cases i <;> simp [Addr.add]
   rw [e,<-HPC.1 i u hu]
   exact ((Below.refl w.heap.size w).alloc (Nat.le_refl _) _).cell (p:=⟨pb,poff+i,none⟩) lpb
  case c2=>exact HV.1
  case c3=>unfold maxLen;omega
  case c4=>omega
  case c5=>simp
  intro v' w10 ho10 hgrow _
  obtain ⟨a9,c9,rfl⟩:=qgi ho10
  have HO:=Sh.mk ho10
  have HB:Sh (Below w.heap.size w w10):=⟨((Below.refl w.heap.size w).alloc (Nat.le_refl _) _).grown hgrow (by simp) (fun j hj=>by cases hj;exact Nat.le_refl _)⟩
  clear ho10 hgrow hmade
  go_wp2_with fail
  go_ret
  exact ⟨a9,c9,rfl,HO.1,HB.1⟩
def qhh (L:List Value) (n:Nat) (w:World) (e:Ending) (w':World):Prop:=∃ (a:Option Addr) (c:Nat),e = .returned (.slice a n c)/\w'.ownsRow w.heap.size 87 9 (.slice a n c) n L/\Below w.heap.size w w'
theorem cloneN_any {rs:List NR} (h:CRow w a (ncs rs)) (hn:n=rs.length) (hl:n<=1048576):Calls Tryz.prog 117 #[.slice a n cap] w fun e w'=>qhh (ncs rs) n w e w':=by
 have hv:∀ u ∈ ncs rs,u.oneCell'=true:=by
  intro u hu
  obtain ⟨y,_,hy⟩:=List.mem_flatMap.1 hu
  simp [qaj] at hy;rcases hy with rfl | rfl | rfl | rfl | rfl | rfl | rfl | rfl | rfl <;> rfl
 have hL:(ncs rs).length=n*9:=by rw [qdt,hn]
 have HV:=Sh.mk hv
 generalize ncs rs=L at h HV hL ⊢
 clear hn hv
 obtain ⟨j0,hjn,hy0,hy1,hy2⟩:=info_parts qin
 have HL:=Sh.mk hL
 clear hL
 rcases Nat.eq_zero_or_pos n with h0 | hp
 ·have hL0:L=[]:=List.eq_nil_of_length_eq_zero (by rw [HL.1,h0,Nat.zero_mul])
  subst h0
  subst hL0
  clear h
  cases a with
  | none =>
   go_enter Tryz.func117,Tryz.ntmps117
   go_wp2_with fail
   go_ret
   exact ⟨none,0,rfl,World.ownsRow_nil w w.heap.size 87 9,Below.refl _ _⟩
  | some q =>
   have hap:∀ (W:World) (g:Addr),∀ ty,(Builtin.append_ #[40,40] ty #[.slice (some g) 0 0,.slice (some q) 0 cap]).run Tryz.prog W = .ok (.slice (some g) 0 0) W:=fun W g ty =>
    run_append_nothing W _ _ _ _ j0 Tryz.underlying40 hjn (some g) 0 0 (Nat.le_refl _) _ (Src.ofSlice W Tryz.underlying40 q 0 cap [] (by simp) (by simp) (by simp))
   have HAP:=Sh.mk hap
   clear hap
   go_enter Tryz.func117,Tryz.ntmps117
   go_wp2_with (at_builtin;refine qbo _ rfl _ _ 40 rfl _ _ rfl rfl (HAP.1 _ _) ?_)
   go_ret
   exact ⟨some ⟨w.heap.size,0,none⟩,0,rfl,World.ownsRow_made (e:=87) (size:=9) (base:=w.heap.size) w #[] 0 (Nat.le_refl _) (by decide) rfl,(Below.refl _ _).alloc (Nat.le_refl _) _⟩
 ·have hLp:0<L.length:=by rw [HL.1];omega
  obtain ⟨pb,poff,rfl,lpb,hpc⟩:=h hLp
  have HPC:=Sh.mk hpc
  clear hpc h hLp
  go_enter Tryz.func117,Tryz.ntmps117
  have hmade:=World.ownsRow_made (e:=87) (size:=9) (base:=w.heap.size) w #[] 0 (Nat.le_refl _) (by decide) rfl
  go_wp2_with (at_builtin;refine wpList_append_own _ rfl _ _ 40 rfl w.heap.size 87 j0 _ 9 96 Tryz.underlying40 hjn hy0 hy1 hy2 rfl (by decide) _ 0 [] rfl hmade ⟨pb,poff,none⟩ n cap L rfl ?c0 ?c1 ?c2 ?c3 ?c4 ?c5 ?_)
  case c0=>first | exact HL.1 | (rw [HL.1];omega)
  case c1 =>
   intro i u hu
   have e:(⟨pb,poff,none⟩:Addr).add i=⟨pb,poff+i,none⟩:=by cases i <;> simp [Addr.add]
   rw [e,<-HPC.1 i u hu]
   exact ((Below.refl w.heap.size w).alloc (Nat.le_refl _) _).cell (p:=⟨pb,poff+i,none⟩) lpb
  case c2=>exact HV.1
  case c3=>unfold maxLen;omega
  case c4=>omega
  case c5=>simp
  intro v' w10 ho10 hgrow _
  obtain ⟨a9,c9,rfl⟩:=qgi ho10
  have HO:=Sh.mk ho10
  have HB:Sh (Below w.heap.size w w10):=⟨((Below.refl w.heap.size w).alloc (Nat.le_refl _) _).grown hgrow (by simp) (fun j hj=>by cases hj;exact Nat.le_refl _)⟩
  clear ho10 hgrow hmade
  go_wp2_with fail
  go_ret
  exact ⟨a9,c9,rfl,HO.1,HB.1⟩
end Go.Proofs.YtoglebfiobofoaaGreatDoor
/- LkO: . -/
namespace Go.Proofs.YtoglebfiobofoaaGreatDoor
set_option maxRecDepth 100000
set_option maxHeartbeats 16000000
open Go.RowKit Go.Maps Go.Sort BigFrame
attribute [local go_sem ↓] Go.wp_at_zero Go.wp_at_succ
end Go.Proofs.YtoglebfiobofoaaGreatDoor
/- LawTre: . -/
namespace Go.Proofs.YtoglebfiobofoaaGreatDoor
set_option maxRecDepth 100000
set_option maxHeartbeats 16000000
open Go.RowKit
attribute [local go_sem ↓] Go.wp_at_zero Go.wp_at_succ
attribute [local irreducible] nodeOk qae atI findX qbk usedX roomX
structure BY (w W:World) (a:Option Addr) (n cap:Nat) (nx:Int) (g:Nat) (c:Option Addr) (m cc:Nat) (T:TM):Prop where
 bx:BX w W a n cap nx
 kp:WCells W g [.slice c m cc,.int .i64 nx]
 cp:TSee W (.agg #[.slice c m cc,.int .i64 nx]) T w.heap.size g
theorem BY.below {w W W':World} {a c:Option Addr} {n cap g m cc:Nat} {nx:Int} {T:TM} (h:BY w W a n cap nx g c m cc T) (hb:Below W.heap.size W W'):BY w W' a n cap nx g c m cc T:=⟨h.bx.below hb,h.kp.grow hb,h.cp.below hb⟩
end Go.Proofs.YtoglebfiobofoaaGreatDoor
/- LawTrw: . -/
namespace Go.Proofs.YtoglebfiobofoaaGreatDoor
set_option maxRecDepth 100000
set_option maxHeartbeats 16000000
open Go.RowKit
attribute [local go_sem ↓] Go.wp_at_zero Go.wp_at_succ
attribute [local irreducible] nodeOk qae atI qap markK
end Go.Proofs.YtoglebfiobofoaaGreatDoor
/- LkT: . -/
namespace Go.Proofs.YtoglebfiobofoaaGreatDoor
set_option maxRecDepth 100000
set_option maxHeartbeats 16000000
open Go.RowKit Go.Maps Go.Sort BigFrame
attribute [local go_sem ↓] Go.wp_at_zero Go.wp_at_succ
theorem implClone (s:ByteArray) (w:World) (hs:s.size<=281474976710656):Calls Tryz.prog 81 #[.string s] w fun e w'=>e = .returned (.string s)/\Below w.heap.size w w':=by
 have HC:=Sh.mk (fun W=>Tryz.stringslite_Clone s W hs)
 go_enter Tryz.func81,Tryz.ntmps81
 go_wp2_with fail
 refine (HC.1 _).mono ?_
 rintro e w1 ⟨rfl,hb⟩
 go_wp2_with fail
 go_ret
 exact ⟨rfl,hb⟩
end Go.Proofs.YtoglebfiobofoaaGreatDoor
/- LawFnd9: . -/
namespace Go.Proofs.YtoglebfiobofoaaGreatDoor
set_option maxRecDepth 100000
set_option maxHeartbeats 16000000
open Go.RowKit
attribute [local go_sem ↓] Go.wp_at_zero Go.wp_at_succ
theorem newX_int:NInt newX.nodes:=by
 intro n hn
 rw [List.mem_singleton.1 hn]
 exact ⟨qch (by decide),qch (by decide)⟩
end Go.Proofs.YtoglebfiobofoaaGreatDoor
