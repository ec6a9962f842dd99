/- Texts of ours, laid one behind the other: LogI. -/
import Derived.Test.YtoglebfiobofoaaGreatDoorQr3
import Derived.Test.YtoglebfiobofoaaGreatDoorQr5
import Derived.Test.YtoglebfiobofoaaGreatDoorQr8
import Derived.Test.YtoglebfiobofoaaGreatDoorQr4
import Derived.RangeFuncCalls
import Derived.RegionIn
import Derived.BigRegionIn
/- LogI: . -/
namespace Go.Proofs.YtoglebfiobofoaaGreatDoor
set_option maxRecDepth 100000
set_option maxHeartbeats 16000000
open Go.RowKit Go.Shelf
attribute [local go_sem] Oper.semAt_some
variable {s:ByteArray} {L:List Value} {v:Value} {X Y w:World}
theorem qgd {B n sz t r:Nat} {o:Obj} (h:w.ownsRow B t sz v n L) (hr:w.heap[r]?=some o) (ho:o.isCells=false):v.ownBlock ≠ some r:=by
 intro e
 obtain ⟨h1,⟨rfl,_⟩ | ⟨g,cap,cur,rfl,b,c,_⟩⟩:=h
 ·cases e
 ·simp [Value.ownBlock] at e
  subst e
  rw [c] at hr
  cases hr
  cases ho
theorem qge {W W':World} (h:Below W.heap.size W W'):KeepsOthers W W':=⟨h.size,fun k _ hk _=>(h.block k (Array.getElem?_eq_some_iff.1 hk).1).trans hk⟩
theorem qsa (s:ByteArray) (k:Nat) (h:k<=s.size) (w:World):(Instr.slice 9 (.string s) none (some (.int .i64 (k:Int))) none).run Tryz.prog w = .ok (.string (s.extract 0 k)) w:=by
 rw [run_slice_string_h (ht:=Tryz.underlying9) (kh:=.i64) (h0:=by omega) (h2:=by omega),Int.toNat_natCast]
theorem qsb {B C n sz t:Nat} (h:w.ownsRow B t sz v n L) (hB:C<=B):w.ownsRow C t sz v n L:=by
 obtain ⟨h1,h2 | ⟨g,cap,cur,a,b,c⟩⟩:=h
 ·exact ⟨h1,.inl h2⟩
 ·exact ⟨h1,.inr ⟨g,cap,cur,a,Nat.le_trans hB b,c⟩⟩
structure RI (w:World) (s:ByteArray) (pre:List (ByteArray × Nat)) (X:World):Prop where
 good:∀ x ∈ pre,isRec x=true
 log:∃ v,WCells X (w.heap.size+1+1) [v,.string (s.extract 0 (W.endOf pre))]/\X.ownsRow (w.heap.size+1+1+1) 33 5 v pre.length (ecs (recE pre))
 file:WCells X w.heap.size [.string s]
 res:WCells X (w.heap.size+1) [.slice none 0 0,.string ⟨#[]⟩]
 bel:Below w.heap.size w X
 siz:w.heap.size+1+1+1<=X.heap.size
def RX (w:World) (s:ByteArray) (all:List (ByteArray × Nat)) (X:World):Prop:=∃ pre x,all=pre++[x]/\isRec x=false/\(∃ post,W.framesOf s=pre++x::post)/\RI w s pre X
theorem RI.turn {pre:List (ByteArray × Nat)} {row:Option Nat} (h:RI w s pre X) (hg:X.grownBy Y row) (hr:∀ r,row=some r->w.heap.size+1+1+1<=r/\∃ o:Obj,X.heap[r]?=some o/\o.isCells=false):RI w s pre Y:=by
 obtain ⟨v,h1,h2⟩:=h.log
 have hc:∀ {b:Nat} {L:List Value},b<w.heap.size+1+1+1->WCells X b L->WCells Y b L:=fun hb hw=>by
  refine qgr hw hg fun e=>?_
  have:=(hr _ e).1
  omega
 refine ⟨h.good,⟨v,hc (by omega) h1,h2.kept hg ?_⟩,hc (by omega) h.file,hc (by omega) h.res,h.bel.grown hg h.bel.size fun k e=>by have:=(hr k e).1;omega,Nat.le_trans h.siz hg.size⟩
 cases e:row with
 | none=>exact Classical.em _
 | some r=>obtain ⟨-,o,h3,h4⟩:=hr r e;exact .inr (qgd h2 h3 h4)
theorem RI.below {pre:List (ByteArray × Nat)} (h:RI w s pre X) (hb:Below X.heap.size X Y):RI w s pre Y:=h.turn (grown_of hb) fun r e=>by cases e
theorem RI.more {w X Xa Y:World} {pre:List (ByteArray × Nat)} {x:ByteArray × Nat} {v v':Value} (h:RI w s pre X) (hx:isRec x=true) (ha:Below X.heap.size X Xa) (hc:X.cell? ⟨w.heap.size+1+1,0,none⟩=some v)
  (ho:Y.ownsRow (w.heap.size+1+1+1) 33 5 v' (pre.length+1) (ecs (recE pre)++qah (readE x.1).1)) (hg:Xa.grownBy Y v.ownBlock) :
  (∀ b L,b<w.heap.size+1+1+1->WCells X b L->WCells Y b L)/\KeepsOthers Xa Y/\Below w.heap.size Xa Y/\RI w s (pre++[x]) ((Y.setCell ⟨w.heap.size+1+1,0,none⟩ v').setCell ⟨w.heap.size+1+1,1,none⟩ (.string (s.extract 0 x.2))):=by
 have h2:=h.below ha
 obtain ⟨v0,h3,h4⟩:=h2.log
 obtain ⟨v1,h3',h4'⟩:=h.log
 have e1:v1=v:=Option.some.inj (((h3'.2 0 _ rfl).1).symm.trans hc)
 have e0:v0=v:=by
  have:=(h3.2 0 _ rfl).1
  rw [ha.cell (p:=⟨w.heap.size+1+1,0,none⟩) (qdo hc),hc] at this
  exact (Option.some.inj this).symm
 subst e0
 have hlt:∀ q,v0.ownBlock=some q->w.heap.size+1+1+1<=q:=fun q e=>(h4.lt q e).1
 have hcl:∀ b L,b<w.heap.size+1+1+1->WCells X b L->WCells Y b L:=fun b L hb hw=>qgr (hw.grow ha) hg fun e=>by have:=hlt b e;omega
 have hB:Below w.heap.size Xa Y:=(Below.refl _ _).grown hg (Nat.le_trans (by have:=h2.siz;omega) (Nat.le_refl _)) fun k e=>by have:=hlt k e;omega
 refine ⟨hcl,⟨hg.size,fun k o hk ho'=>(hg.block k (Array.getElem?_eq_some_iff.1 hk).1 fun e=>qgd h4 hk ho' e.symm).trans hk⟩,hB,?_⟩
 have hne:∀ q,v'.ownBlock=some q->q ≠ w.heap.size+1+1:=fun q e=>by have:=(ho.lt q e).1;omega
 have hk:∀ (Z:World) (i:Nat) (y:Value),Z.ownsRow (w.heap.size+1+1+1) 33 5 v' (pre.length+1) (ecs (recE pre)++qah (readE x.1).1)->(Z.setCell ⟨w.heap.size+1+1,i,none⟩ y).ownsRow (w.heap.size+1+1+1) 33 5 v' (pre.length+1) (ecs (recE pre)++qah (readE x.1).1):=fun Z i y h=>h.kept (grownBy_setCell Z (w.heap.size+1+1) i y) (.inr fun e=>hne _ e rfl)
 refine ⟨fun y hy=>?_,⟨v',?_,?_⟩,?_,?_,?_,?_⟩
 ·rcases List.mem_append.1 hy with hy | hy
  ·exact h.good y hy
  ·rw [List.mem_singleton.1 hy];exact hx
 ·rw [W.endOf_snoc]
  exact ((hcl _ _ (by omega) h3').set 0 v' (by simp)).set 1 (.string (s.extract 0 x.2)) (by simp)
 ·rw [qns,<-qqg,List.length_append]
  exact hk _ _ _ (hk _ _ _ ho)
 ·exact ((hcl _ _ (by omega) h.file).other ⟨w.heap.size+1+1,0,none⟩ _ (by simp;omega)).other ⟨w.heap.size+1+1,1,none⟩ _ (by simp;omega)
 ·exact ((hcl _ _ (by omega) h.res).other ⟨w.heap.size+1+1,0,none⟩ _ (by simp)).other ⟨w.heap.size+1+1,1,none⟩ _ (by simp)
 ·exact ((h2.bel.trans hB).setCell (p:=⟨w.heap.size+1+1,0,none⟩) (by simp;omega) _).setCell (p:=⟨w.heap.size+1+1,1,none⟩) (by simp;omega) _
 ·have:=h2.siz;have:=hg.size;simp;omega
theorem RI.fin {s T:ByteArray} {va:Option Addr} {vn vc D:Nat} (h:RI w s (logL s) X) (hl:X.ownsRow (w.heap.size+1+1+1) 33 5 (.slice va vn vc) (logL s).length (ecs (recE (logL s)))) (hD:w.heap.size+1+1+1<=D) (hK:X.heap[D]?=some (.deferred (some []))) :
  ((X.setCell ⟨w.heap.size+1,0,none⟩ (.slice va vn vc)).setCell ⟨w.heap.size+1,1,none⟩ (.string T)).heap[D]?=some (.deferred (some [])) /\
  WCells (((X.setCell ⟨w.heap.size+1,0,none⟩ (.slice va vn vc)).setCell ⟨w.heap.size+1,1,none⟩ (.string T)).putObj D (.deferred none)) (w.heap.size+1) [.slice va vn vc,.string T] /\
  (((X.setCell ⟨w.heap.size+1,0,none⟩ (.slice va vn vc)).setCell ⟨w.heap.size+1,1,none⟩ (.string T)).putObj D (.deferred none)).ownsRow w.heap.size 33 5 (.slice va vn vc) (logE s).length (ecs (logE s)) /\
  Below w.heap.size w (((X.setCell ⟨w.heap.size+1,0,none⟩ (.slice va vn vc)).setCell ⟨w.heap.size+1,1,none⟩ (.string T)).putObj D (.deferred none)):=by
 have hlt:=(Array.getElem?_eq_some_iff.1 hK).1
 obtain ⟨Y,hY⟩:∃ Y,Y=X.setCell ⟨w.heap.size+1,0,none⟩ (.slice va vn vc):=⟨_,rfl⟩
 obtain ⟨Z,hZ⟩:∃ Z,Z=Y.setCell ⟨w.heap.size+1,1,none⟩ (.string T):=⟨_,rfl⟩
 rw [<-hY,<-hZ]
 have g1:X.grownBy Y (some (w.heap.size+1)):=by rw [hY];exact grownBy_setCell X _ _ _
 have g2:Y.grownBy Z (some (w.heap.size+1)):=by rw [hZ];exact grownBy_setCell Y _ _ _
 have g3:Z.grownBy (Z.putObj D (.deferred none)) (some D):=grownBy_putObj' Z D _
 have d1:=(g1.block D hlt (by simp;omega)).trans hK
 have d2:=(g2.block D (Nat.lt_of_lt_of_le hlt g1.size) (by simp;omega)).trans d1
 have hb:∀ q,(Value.slice va vn vc).ownBlock=some q->w.heap.size+1+1+1<=q:=fun q e=>(hl.lt q e).1
 have n1:(Value.slice va vn vc).ownBlock ≠ some (w.heap.size+1):=fun e=>by have:=hb _ e;omega
 have o2:=(hl.kept g1 (.inr n1)).kept g2 (.inr n1)
 have c0:WCells Z (w.heap.size+1) [.slice va vn vc,.string T]:=by
  rw [hZ,hY]
  exact (h.res.set 0 (.slice va vn vc) (by simp)).set 1 (.string T) (by simp)
 refine ⟨d2,qgr c0 g3 (by simp;omega),?_,?_⟩
 ·have:=qsb (o2.kept g3 (.inr (qgd o2 d2 rfl))) (C:=w.heap.size) (by omega)
  unfold logE
  rw [qmj]
  exact this
 ·exact ((h.bel.grown g1 h.bel.size (fun k e=>by cases e;omega)).grown g2 (Nat.le_trans h.bel.size g1.size) (fun k e=>by cases e;omega)).grown g3 (Nat.le_trans h.bel.size (Nat.le_trans g1.size g2.size)) (fun k e=>by cases e;omega)
theorem RI.own (w:World) (s:ByteArray):OwnFrom (w.heap.size+1+1+1) (RI w s):=fun _ _ _ _ h hg hr=>h.turn hg hr
theorem RX.own (w:World) (s:ByteArray):OwnFrom (w.heap.size+1+1+1) (RX w s):=fun _ _ _ _ ⟨p,x,h1,h2,h3,h4⟩ hg hr=>⟨p,x,h1,h2,h3,h4.turn hg hr⟩
theorem RI.start (w:World) (s:ByteArray) (t1 t2:TypeId):RI w s [] (((w.alloc (.cells #[.string s] t1)).alloc (.cells #[.slice none 0 0,.string ⟨#[]⟩] t2)).alloc (.cells #[.slice none 0 0,.string ⟨#[]⟩] t2)):=by
 have h1:=qad w #[.string s] t1
 have h2:=qad (w.alloc (.cells #[.string s] t1)) #[.slice none 0 0,.string ⟨#[]⟩] t2
 have h3:=qad ((w.alloc (.cells #[.string s] t1)).alloc (.cells #[.slice none 0 0,.string ⟨#[]⟩] t2)) #[.slice none 0 0,.string ⟨#[]⟩] t2
 simp only [World.size_alloc] at h2 h3
 have e0:s.extract 0 (W.endOf [])=⟨#[]⟩:=by rw [W.endOf_nil];apply ByteArray.ext;simp
 exact ⟨by simp,⟨.slice none 0 0,by rw [e0];exact h3,World.ownsRow_nil _ _ _ _⟩,(h1.alloc _).alloc _,h2.alloc _,(((Below.refl _ w).alloc (Nat.le_refl _) _).alloc (by simp) _).alloc (by simp;omega) _,by simp⟩
def qjk (s:ByteArray):Value:=if logAt s<s.size then .iface 124 (.agg #[.int .i64 2]) else .nilIface
def qsc (s:ByteArray) (w:World) (e:Ending) (w':World):Prop:=
 ∃ v,e = .returned (.tuple #[.agg #[v,.string (s.extract 0 (logAt s))],qjk s])/\w'.ownsRow w.heap.size 33 5 v (logE s).length (ecs (logE s))/\Below w.heap.size w w'
theorem implReadRecords (s:ByteArray) (w:World) (ht:SumTab w):Calls Tryz.prog 34 #[.string s] w fun e w'=>qsc s w e w':=by
 have HT:Sh (SumTab w):=⟨ht⟩
 clear ht
 obtain ⟨i0,hi,hz0,hz1,hz2⟩:=info_parts qnu
 have HS:=Sh.mk (RI.start w s)
 refine (callsIn_wide (n:=4)).1 ?_
 refine callsIn_of_wp_marks Tryz.func34 rfl trivial ?_ rfl
 simp only [Tryz.ntmps34,List.size_toArray,List.length_cons,List.length_nil,Nat.reduceAdd,Nat.reduceSub,Array.replicate_succ,Array.replicate_zero,List.push_toArray,List.append_toArray,List.nil_append,List.cons_append]
 gi_wp2
 have hB0:Below w.heap.size w (((w.alloc (.cells #[.string s] 9)).alloc (.cells #[.slice none 0 0,.string ⟨#[]⟩] 72)).alloc (.cells #[.slice none 0 0,.string ⟨#[]⟩] 72)):=(HS.1 _ _).bel
 refine range_or (id:=0) (gf:=75) (r:=.string s) (encs:=frEnc) (B:=w.heap.size) (W.framesOf s) rfl (enters_of Tryz.func75 (by kernel_rfl) rfl) (fun _=>rfl) (by simp;omega)
  (RI w s) (RX w s) (by simpa using RI.own w s) (by simpa using RX.own w s) (HS.1 _ _)
  (fun x=>{ tmps:=#[.string s,.pointer (some ⟨w.heap.size,0,none⟩),.pointer (some ⟨w.heap.size+1,0,none⟩),.nilIface,.pointer (some ⟨w.heap.size+1+1,0,none⟩),.string x.1,.int .i64 (x.2:Int),undef,undef,.string s,.func (.func 75) #[.string s] #[],.string x.1,.int .i64 (x.2:Int),undef,undef,undef,undef,undef,undef,undef,undef,undef,undef,undef,undef,undef,undef,undef,undef,undef,undef,undef,undef,undef,undef,undef,undef,undef,undef,undef],defers:=[] }) ?assign ?body ?seq ?done ?stop
 case assign =>
  intro l x X K hK
  dsimp only [frEnc]
  gi_wp2
  exact hK
 case seq =>
  intro l J Jx X hX hJ hR h0
  exact frames_or s w HT.1 _ l J Jx hJ hR X (hB0.trans (hX.mono hB0.size)) h0
 case body =>
  rintro l pre x post X hxs hI
  have hxr:=qfa (s:=s) (x:=x) (by rw [hxs];simp)
  have hpl:pre.length<20000:=by have:=W.framesOf_len s;rw [hxs] at this;simp at this;omega
  obtain ⟨r,b⟩:=x
  dsimp only at hxr ⊢
  obtain ⟨hr1,hr2,hr3⟩:=hxr
  have HI:=Sh.mk hI
  have HXS:=Sh.mk hxs
  have hre:=implReadEdit r
  generalize hrq:readE r=re at hre
  have HRE:=Sh.mk hrq
  obtain ⟨X1,ok⟩:=re
  dsimp only at hre
  have HRD:=Sh.mk hre
  clear hI hxs hrq hre HS hB0
  cases ok with
  | false =>
   gi_wp2_with (refine ⟨trivial,?_⟩;gi_at_call 76;refine (CallsIn.inRound l (callsIn_wide.2 (HRD.1 _ (by omega)))).mono ?_;rintro e w2 ⟨rfl,hb2⟩)
   have hb3:=hb2.alloc hb2.size (.cells #[.int .i64 X1.kind,.string X1.path,.string X1.dest,.int .i64 X1.num,.int .i64 X1.who] 33)
   exact ⟨qge hb3,hb3.mono HI.1.bel.size,.inr ⟨rfl,pre,(r,b),rfl,by unfold isRec;rw [HRE.1],⟨post,HXS.1⟩,HI.1.below hb3⟩⟩
  | true =>
   have HSL:=Sh.mk (qsa s b hr3)
   gi_wp2_with (first
    | (refine ⟨trivial,?_⟩;gi_at_call 76;refine (CallsIn.inRound l (callsIn_wide.2 (HRD.1 _ (by omega)))).mono ?_;rintro e w2 ⟨rfl,hb2⟩;have hb3:=hb2.alloc hb2.size (.cells #[.int .i64 X1.kind,.string X1.path,.string X1.dest,.int .i64 X1.num,.int .i64 X1.who] 33);have HI3:=Sh.mk (HI.1.below hb3);have HB3:=Sh.mk hb3;obtain ⟨v,hlc,hlo⟩:=HI3.1.log;have c0:=(hlc.2 0 _ rfl).1;have hbx:WCells (w2.alloc (.cells #[.int .i64 X1.kind,.string X1.path,.string X1.dest,.int .i64 X1.num,.int .i64 X1.who] 33)) w2.heap.size (qah X1):=qad w2 _ _;have b0:=(hbx.2 0 _ rfl).1;have b1:=(hbx.2 1 _ rfl).1;have b2:=(hbx.2 2 _ rfl).1;have b3:=(hbx.2 3 _ rfl).1;have b4:=(hbx.2 4 _ rfl).1;have hz3:=HI3.1.siz;clear hlc hbx hb3 hb2)
    | (gi_at_builtin;refine wpListIn_append_own _ rfl _ _ 24 rfl (w.heap.size+1+1+1) 33 i0 _ 5 56 Tryz.underlying24 hi hz0 hz1 hz2 rfl (by decide) _ _ _ rfl (hlo.alloc _) ⟨w2.heap.size+1,0,none⟩ 1 1 [.int .i64 X1.kind,.string X1.path,.string X1.dest,.int .i64 X1.num,.int .i64 X1.who] rfl rfl ?c1 ?c2 ?c3 ?c4 ?c5 ?_))
   case c1=>exact World.news_of_block (cs:=#[.int .i64 X1.kind,.string X1.path,.string X1.dest,.int .i64 X1.num,.int .i64 X1.who]) (t:=33) (fr:=(0,0)) (by simpa using heap_alloc_new (w2.alloc (.cells #[.int .i64 X1.kind,.string X1.path,.string X1.dest,.int .i64 X1.num,.int .i64 X1.who] 33)) _)
   case c2=>simp [Value.oneCell']
   case c3=>unfold maxLen;omega
   case c4=>omega
   case c5=>simp at hz3 ⊢;omega
   intro v5 w5 hown5 hgrow5 _
   have HM:=HI3.1.more (x:=(r,b)) (by unfold isRec;rw [HRE.1]) ((Below.refl _ _).alloc (Nat.le_refl _) _) c0 (by rw [show (readE (r,b).1).1=X1 by rw [HRE.1]];exact hown5) hgrow5
   obtain ⟨hcl,hko,hbw,hRI⟩:=HM
   obtain ⟨g5,cap5,rfl⟩:=ownsRow_succ hown5
   obtain ⟨v9,hlc,-⟩:=HI3.1.log
   have hw4:=hcl _ _ (by omega) hlc
   have hw0:=hcl _ _ (by omega) HI3.1.file
   have q0:=(hw4.2 0 _ rfl).1
   have f0:=(hw4.2 0 _ rfl).2
   have q1:=(hw4.2 1 _ rfl).1
   have f1:=(hw4.2 1 _ rfl).2
   have p0:=(hw0.2 0 _ rfl).1
   have HK:=Sh.mk (((qge HB3.1).trans (qge ((Below.refl _ _).alloc (Nat.le_refl _) _))).trans hko)
   have HB:=Sh.mk (((HB3.1.mono HI.1.bel.size).trans ((Below.refl _ _).alloc (by have:=HI3.1.bel.size;omega) _)).trans hbw)
   have HR:=Sh.mk hRI
   have hsl:=HSL.1
   clear hcl hko hbw hRI hlc hw4 hw0 hown5 hgrow5 c0 b0 b1 b2 b3 b4 hlo
   gi_wp2
   exact ⟨(HK.1.trans (KeepsOthers.setCell _ _ _)).trans (KeepsOthers.setCell _ _ _),(HB.1.setCell (p:=⟨w.heap.size+1+1,0,none⟩) (by simp;omega) _).setCell (p:=⟨w.heap.size+1+1,1,none⟩) (by simp;omega) _,.inl ⟨rfl,HR.1⟩⟩
 case done =>
  rintro D X hD hI hK
  have hpl:W.framesOf s=logL s:=(qnt hI.good).symm
  rw [hpl] at hI
  obtain ⟨v,hlc,hlo⟩:=hI.log
  have hle:=qmk s
  obtain ⟨T,hT⟩:∃ T,T=s.extract 0 (logAt s):=⟨_,rfl⟩
  have hTs:T.size=logAt s:=by rw [hT];simp;omega
  have HTT:=Sh.mk hT
  rw [show s.extract 0 (W.endOf (logL s))=T from hT.symm] at hlc
  have HLO:=Sh.mk hlo
  obtain ⟨va,vn,vc,rfl⟩:∃ a n c,v = .slice a n c:=by
   obtain ⟨_,⟨rfl,_⟩ | ⟨g,cap,cur,rfl,_⟩⟩:=hlo
   ·exact ⟨_,_,_,rfl⟩
   ·exact ⟨_,_,_,rfl⟩
  have q0:=(hlc.2 0 _ rfl).1
  have q1:=(hlc.2 1 _ rfl).1
  have p0:=(hI.file.2 0 _ rfl).1
  have r0:=hI.res.2 0 _ rfl
  have r1:=hI.res.2 1 _ rfl
  obtain ⟨r0,r0'⟩:=r0
  obtain ⟨r1,r1'⟩:=r1
  have HI:=Sh.mk hI
  have HK:=Sh.mk hK
  have HD:=Sh.mk hD
  clear hlc hlo hI hK hT hD
  by_cases hlt:logAt s<s.size
  ·have hf:Sh (qjk s = .iface 124 (.agg #[.int .i64 2])):=⟨if_pos hlt⟩
   have h1:(T.size:Int)<(s.size:Int):=by omega
   clear hlt
   gi_wp2
   obtain ⟨k1,k2,k3,k4⟩:=HI.1.fin (T:=T) HLO.1 (by simpa using HD.1) HK.1
   have c0:=(k2.2 0 _ rfl).1
   have c1:=(k2.2 1 _ rfl).1
   refine ⟨by simp,.inl ⟨_,_,rfl,run_takeDeferred k1,?_⟩⟩
   refine ⟨.tuple #[.agg #[.slice va vn vc,.string T],.iface 124 (.agg #[.int .i64 2])],by simp [results,Tryz.results34,go_sem,c0,c1],?_⟩
   exact ⟨_,by rw [hf.1,<-HTT.1],k3,k4⟩
  ·have hf:Sh (qjk s = .nilIface):=⟨if_neg hlt⟩
   have h1:¬ (T.size:Int)<(s.size:Int):=by omega
   clear hlt
   gi_wp2
   obtain ⟨k1,k2,k3,k4⟩:=HI.1.fin (T:=T) HLO.1 (by simpa using HD.1) HK.1
   have c0:=(k2.2 0 _ rfl).1
   have c1:=(k2.2 1 _ rfl).1
   refine ⟨by simp,.inl ⟨_,_,rfl,run_takeDeferred k1,?_⟩⟩
   refine ⟨.tuple #[.agg #[.slice va vn vc,.string T],.nilIface],by simp [results,Tryz.results34,go_sem,c0,c1],?_⟩
   exact ⟨_,by rw [hf.1,<-HTT.1],k3,k4⟩
 case stop =>
  rintro D pre X hD ⟨q,x,rfl,hx,⟨post,hxs⟩,hI⟩ hK
  have hpl:q=logL s:=by unfold logL;rw [hxs,qld hI.good hx]
  rw [hpl] at hI
  obtain ⟨v,hlc,hlo⟩:=hI.log
  have hle:=qmk s
  obtain ⟨T,hT⟩:∃ T,T=s.extract 0 (logAt s):=⟨_,rfl⟩
  have hTs:T.size=logAt s:=by rw [hT];simp;omega
  have HTT:=Sh.mk hT
  rw [show s.extract 0 (W.endOf (logL s))=T from hT.symm] at hlc
  have HLO:=Sh.mk hlo
  obtain ⟨va,vn,vc,rfl⟩:∃ a n c,v = .slice a n c:=by
   obtain ⟨_,⟨rfl,_⟩ | ⟨g,cap,cur,rfl,_⟩⟩:=hlo
   ·exact ⟨_,_,_,rfl⟩
   ·exact ⟨_,_,_,rfl⟩
  have q0:=(hlc.2 0 _ rfl).1
  have q1:=(hlc.2 1 _ rfl).1
  have p0:=(hI.file.2 0 _ rfl).1
  have r0:=hI.res.2 0 _ rfl
  have r1:=hI.res.2 1 _ rfl
  obtain ⟨r0,r0'⟩:=r0
  obtain ⟨r1,r1'⟩:=r1
  have HI:=Sh.mk hI
  have HK:=Sh.mk hK
  have HD:=Sh.mk hD
  clear hlc hlo hI hK hT hD
  by_cases hlt:logAt s<s.size
  ·have hf:Sh (qjk s = .iface 124 (.agg #[.int .i64 2])):=⟨if_pos hlt⟩
   have h1:(T.size:Int)<(s.size:Int):=by omega
   clear hlt
   gi_wp2
   obtain ⟨k1,k2,k3,k4⟩:=HI.1.fin (T:=T) HLO.1 (by simpa using HD.1) HK.1
   have c0:=(k2.2 0 _ rfl).1
   have c1:=(k2.2 1 _ rfl).1
   refine ⟨by simp,.inl ⟨_,_,rfl,run_takeDeferred k1,?_⟩⟩
   refine ⟨.tuple #[.agg #[.slice va vn vc,.string T],.iface 124 (.agg #[.int .i64 2])],by simp [results,Tryz.results34,go_sem,c0,c1],?_⟩
   exact ⟨_,by rw [hf.1,<-HTT.1],k3,k4⟩
  ·have hf:Sh (qjk s = .nilIface):=⟨if_neg hlt⟩
   have h1:¬ (T.size:Int)<(s.size:Int):=by omega
   clear hlt
   gi_wp2
   obtain ⟨k1,k2,k3,k4⟩:=HI.1.fin (T:=T) HLO.1 (by simpa using HD.1) HK.1
   have c0:=(k2.2 0 _ rfl).1
   have c1:=(k2.2 1 _ rfl).1
   refine ⟨by simp,.inl ⟨_,_,rfl,run_takeDeferred k1,?_⟩⟩
   refine ⟨.tuple #[.agg #[.slice va vn vc,.string T],.nilIface],by simp [results,Tryz.results34,go_sem,c0,c1],?_⟩
   exact ⟨_,by rw [hf.1,<-HTT.1],k3,k4⟩
end Go.Proofs.YtoglebfiobofoaaGreatDoor
