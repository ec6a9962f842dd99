/- Texts of ours, laid one behind the other: DrEdA, DrEdB, FrV, FrW, DiskL, DiskM, ImA, LkP, MapA, LkA, LkB, LkC, LkD, LawTrn, LkN, ActB, AcM, DiskN. -/
import Derived.Test.YtoglebfiobofoaaGreatDoorQr3
import Derived.Test.YtoglebfiobofoaaGreatDoorQr4
import Derived.Test.YtoglebfiobofoaaGreatDoorQr2
import Derived.Test.YtoglebfiobofoaaGreatDoorQr1
import Derived.RangeFuncNested
import Derived.RangeFuncLeaves
import Derived.RangeFuncBox
import Derived.Shelf.Abstract
import Derived.WalkKit
import Derived.OwnWalkIn
import Derived.TacticsInMore
import Derived.LoopNIn
import Derived.LoopIn
import Derived.Maps.AppendAt
import Derived.Test.YtoglebfiobofoaaGreatDoorQrShf
import Derived.Sort.KeysCollected
import Derived.Sort.Walk0
import Derived.Maps.OwnSet
import Derived.Maps.RangeWalk
import Derived.Maps.OwnOps
import Derived.Deep.CutRange
import Derived.Deep.RegionHeld3
/- DrEdA: . -/
namespace Go.Proofs.YtoglebfiobofoaaGreatDoor
set_option maxRecDepth 100000
set_option maxHeartbeats 16000000
open Go.RowKit
attribute [local go_sem ↓] Go.wp_at_zero Go.wp_at_succ
variable {X:EM} {A B E cap g len:Nat} {a:Option Addr} {w w0:World}
theorem Cur.other (h:Cur w g B a len cap) (p:Addr) (v:Value) (hp:p.block ≠ g) (hB:B<=p.block):Cur (w.setCell p v) g B a len cap:=by
 obtain ⟨h1,h2,h3,h4,⟨i,h5,h5'⟩,⟨k,h6⟩,h7⟩:=h
 have hblk:∀ q,q ≠ p.block->(w.setCell p v).heap[q]?=w.heap[q]?:=fun q hq=>Below.heap_setCell _ _ _ _ hq
 have hb:Below 0 w (w.setCell p v):=(Below.refl _ _).setCell (Nat.zero_le _) v
 refine ⟨h1,Nat.lt_of_lt_of_le h2 hb.size,⟨h3.1,fun hp'=>?_⟩,(World.cell?_of_block (a:=⟨g,0,none⟩) (hblk g (Ne.symm hp))).trans h4,⟨i,(World.cell?_of_block (a:=⟨g,1,none⟩) (hblk g (Ne.symm hp))).trans h5,h5'⟩,⟨k,(World.cell?_of_block (a:=⟨g,2,none⟩) (hblk g (Ne.symm hp))).trans h6⟩,fun j hj=>(World.frozen?_of_block (a:=⟨g,j,none⟩) (hblk g (Ne.symm hp))).trans (h7 j hj)⟩
 obtain ⟨b,off,e,hbB,hx⟩:=h3.2 hp'
 exact ⟨b,off,e,hbB,fun j hj=>(hx j hj).imp fun x hx=>⟨(World.cell?_of_block (a:=⟨b,off+j,none⟩) (hblk b (by omega))).trans hx.1,hx.2⟩⟩
def EPl (e:EM):Prop:=(e.path.size<=16/\noZ e.path=true)/\(e.dest.size<=16/\noZ e.dest=true)
theorem EPl.fit {e:EM} (h:EPl e):EFit e:=⟨Nat.le_trans h.1.1 (by omega),Nat.le_trans h.2.1 (by omega)⟩
structure DE (w0 w:World) (g B:Nat) (a:Option Addr) (len cap A E:Nat) (X:EM):Prop where
 cur:Cur w g B a len cap
 ans:WCells w A (qah zeroE)
 box:WCells w E (qah X)
 gr:w0.grownBy w (some g)
 ne:A ≠ E
 hA:w0.heap.size<=A
 hE:w0.heap.size<=E
 hg:g<w0.heap.size
 pl:EPl X
theorem DE.turn {w0 w w':World} (h:DE w0 w g B a len cap A E X) (hc:Cur w' g B a len cap) (hg:w.grownBy w' (some g)):DE w0 w' g B a len cap A E X:=
 ⟨hc,h.ans.apart hg (by have:=h.hA;have:=h.hg;omega),h.box.apart hg (by have:=h.hE;have:=h.hg;omega),qrn h.gr hg,h.ne,h.hA,h.hE,h.hg,h.pl⟩
theorem qcb (h:w0.grownBy w (some g)) (p:Addr) (v:Value) (hp:w0.heap.size<=p.block):w0.grownBy (w.setCell p v) (some g):=by
 have hb:Below 0 w (w.setCell p v):=(Below.refl _ _).setCell (Nat.zero_le _) v
 exact ⟨hb.os.trans h.os,hb.tape.trans h.tape,hb.output.trans h.output,Nat.le_trans h.size hb.size,fun k hk hn=>(Below.heap_setCell _ _ _ _ (by omega)).trans (h.block k hk hn)⟩
theorem DE.set (h:DE w0 w g B a len cap A E X) (i:Nat) (v:Value) (Y:EM) (hi:i<5) (hz:(qah X).set i v=qah Y) (hp:EPl Y):DE w0 (w.setCell ⟨E,i,none⟩ v) g B a len cap A E Y:=
 ⟨h.cur.other _ _ (by have:=h.hE;have:=h.hg;show E ≠ g;omega) (by have:=h.hE;have:=h.hg;have:=h.cur.1;show B<=E;omega),h.ans.other _ _ h.ne,by rw [<-hz];exact h.box.set i v (by rw [qbv];exact hi),qcb h.gr _ _ h.hE,h.ne,h.hA,h.hE,h.hg,hp⟩
theorem DE.got (h:DE w0 w g B a len cap A E X):w.cell? ⟨E,0,none⟩=some (.int .i64 X.kind)/\w.cell? ⟨E,1,none⟩=some (.string X.path)/\w.cell? ⟨E,2,none⟩=some (.string X.dest)/\w.cell? ⟨E,3,none⟩=some (.int .i64 X.num)/\w.cell? ⟨E,4,none⟩=some (.int .i64 X.who):=
 ⟨(h.box.2 0 _ rfl).1,(h.box.2 1 _ rfl).1,(h.box.2 2 _ rfl).1,(h.box.2 3 _ rfl).1,(h.box.2 4 _ rfl).1⟩
theorem DE.room (h:DE w0 w g B a len cap A E X):(w.cell? ⟨A,0,none⟩=some (.int .i64 0)/\w.frozen? ⟨A,0,none⟩=false)/\(w.cell? ⟨A,1,none⟩=some (.string ⟨#[]⟩)/\w.frozen? ⟨A,1,none⟩=false)/\(w.cell? ⟨A,2,none⟩=some (.string ⟨#[]⟩)/\w.frozen? ⟨A,2,none⟩=false)/\(w.cell? ⟨A,3,none⟩=some (.int .i64 0)/\w.frozen? ⟨A,3,none⟩=false)/\(w.cell? ⟨A,4,none⟩=some (.int .i64 0)/\w.frozen? ⟨A,4,none⟩=false):=
 ⟨h.ans.2 0 _ rfl,h.ans.2 1 _ rfl,h.ans.2 2 _ rfl,h.ans.2 3 _ rfl,h.ans.2 4 _ rfl⟩
theorem DE.done (h:DE w0 w g B a len cap A E X):EPl X/\WCells (put5 w A X) A (qah X)/\Cur (put5 w A X) g B a len cap/\w0.grownBy (put5 w A X) (some g):=by
 have hAg:A ≠ g:=by have:=h.hA;have:=h.hg;omega
 have hBA:B<=A:=by have:=h.hA;have:=h.hg;have:=h.cur.1;omega
 refine ⟨h.pl,?_,?_,?_⟩
 ·exact ((((h.ans.set 0 (.int .i64 X.kind) (by simp [qah])).set 1 (.string X.path) (by simp [qah])).set 2 (.string X.dest) (by simp [qah])).set 3 (.int .i64 X.num) (by simp [qah])).set 4 (.int .i64 X.who) (by simp [qah])
 ·exact ((((h.cur.other ⟨A,0,none⟩ _ hAg hBA).other ⟨A,1,none⟩ _ hAg hBA).other ⟨A,2,none⟩ _ hAg hBA).other ⟨A,3,none⟩ _ hAg hBA).other ⟨A,4,none⟩ _ hAg hBA
 ·exact qcb (qcb (qcb (qcb (qcb h.gr ⟨A,0,none⟩ _ h.hA) ⟨A,1,none⟩ _ h.hA) ⟨A,2,none⟩ _ h.hA) ⟨A,3,none⟩ _ h.hA) ⟨A,4,none⟩ _ h.hA
end Go.Proofs.YtoglebfiobofoaaGreatDoor
/- FrV: . -/
namespace Go.Proofs.YtoglebfiobofoaaGreatDoor
set_option maxRecDepth 100000
set_option maxHeartbeats 16000000
open Go.RowKit
variable {B l:Nat} {W:World}
def GoesOr {α:Type} (B id:Nat) (I Ix:List α->World->Prop) (xs:List α) (W:World):Exit->Act->World->Prop:=fun e _ W'=>KeepsOthers W W'/\Below B W W'/\((e = .normal/\I xs W')\/(e = .exit id/\Ix xs W'))
def qpi (P:Program) {α:Type} (n l B:Nat) (encs:α->Array Value) (J Jx:List α->World->Prop) (xs:List α):Prop:=
 ∀ pre x post W,xs=pre++x::post->J pre W->YieldAt Fence.wide n P l (encs x) W fun e W'=>Below B W W'/\((e = .returned (.bool true)/\J (pre++[x]) W')\/(e = .returned (.bool false)/\Jx (pre++[x]) W'))
theorem qdg {k l:Nat} {o o':Obj} (h:W.heap[k]?=some o) (hne:l ≠ k):(W.putObj l o').heap[k]?=some o:=(World.putObj_heap_other (Ne.symm hne)).trans h
theorem qnd (o':Obj) (hl:l<W.heap.size) (hB:B<=l):Below B W (W.putObj l o'):=
 (Below.refl B W).grown (grownBy_putObj' W l o') (by omega) (fun k e=>by cases e;exact hB)
theorem range_or {P:Program} {α:Type} {n id:Nat} {g:Operand} {ps:Array Tmp} {assign body:Code} {Q:Exit->Act->World->Prop} {a:Act} {w:World} {gf:Nat} {r:Value} {encs:α->Array Value} (xs:List α)
  (hg:a.eval g = .func (.func gf) #[r] #[]) (eg:∀ args w,(callFunc gf args).run P w = .ok (.enter gf args) w) (hps:∀ x,(encs x).size=ps.size) (hB:B<=w.heap.size)
  (I Ix:List α->World->Prop) (hI:OwnFrom w.heap.size I) (hX:OwnFrom w.heap.size Ix) (h0:I [] w) (a₁:α->Act)
  (hassign:∀ (l:Nat) (x:α) (W:World) (K:Act->World->Prop),K (a₁ x) W->assign.wpIn (Fence.wide.inRound l) (n - 1 - 1) P (Exit.then K (fun _ _ _=>False)) { tmps:=(ps.zip (encs x)).foldl (fun t (p,v)=>t.setIfInBounds p v) a.tmps,defers:=[] } W)
  (hbody:∀ (l:Nat) (pre:List α) (x:α) (post:List α) (W:World),xs=pre++x::post->I pre W->body.wpIn (Fence.wide.inRound l) (n - 1 - 1) P (GoesOr B id I Ix (pre++[x]) W) (a₁ x) W)
  (hseq:∀ (l:Nat) (J Jx:List α->World->Prop) (W:World),Below w.heap.size w W->(∀ s X Y,J s X->X.grownBy Y none->J s Y)->qpi P (n - 1 - 1) l B encs J Jx xs->J [] W->CallsIn Fence.wide (n - 1) P gf #[r,.func (.yield l) #[] #[]] W fun e W'=>(∃ v,e = .returned v)/\(J xs W'\/∃ pre,Jx pre W'))
  (hdone:∀ (D:Nat) (W:World),w.heap.size<=D->I xs W->W.heap[D]?=some (.deferred (some []))->Q .normal { a with defers:={ target:=.collected D,args:=#[] }::a.defers } W)
  (hstop:∀ (D:Nat) (pre:List α) (W:World),w.heap.size<=D->Ix pre W->W.heap[D]?=some (.deferred (some []))->(Code.exit id).wpIn Fence.wide n P Q { a with defers:={ target:=.collected D,args:=#[] }::a.defers } W) :
  (Code.rangeFunc g ps assign body).wpIn Fence.wide n P Q a w:=by
 apply wpIn_rangeFunc
 intro fn hfn
 let lp:LoopState->Option Code->Loop:=fun st pe=>{ state:=st,pending:=pe,fn,tmps:=a.tmps,params:=ps,assign,body,defers:=w.heap.size }
 let D:=w.heap.size
 let l:=w.heap.size+1
 obtain ⟨V,hV⟩:∃ V,V=(w.alloc (.deferred (some []))).alloc (.loop (lp .ready none)):=⟨_,rfl⟩
 have gV:w.grownBy V none:=by
  have:=((Below.refl w.heap.size w).alloc (Nat.le_refl _) (.deferred (some []))).alloc (by simp) (.loop (lp .ready none))
  rw [hV];exact ⟨this.os,this.tape,this.output,this.size,fun k hk _=>this.block k hk⟩
 have vl:V.heap[l]?=some (.loop (lp .ready none)):=by
  have:=World.alloc_heap_new (w.alloc (.deferred (some []))) (.loop (lp .ready none))
  rw [World.size_alloc] at this
  rw [hV];exact this
 have vD:V.heap[D]?=some (.deferred (some [])):=by
  rw [hV];exact (Below.heap_alloc _ _ _ (by simp [D])).trans (World.alloc_heap_new w _)
 refine ⟨l,_,V,{ target:=.fn (.func gf) #[],args:=#[r,.func (.yield l) #[] #[]] },V,gf,#[r,.func (.yield l) #[] #[]],V,(by rw [hV];exact run_enterLoop_outer _ _ _ _ _),?_,fun _ _=>trivial,(by simp [invoke,go_sem,eg]),(fun h=>by cases h),?_⟩
 ·simp only [resolve,hg]
  simp [go_sem]
 let J:List α->World->Prop:=fun pre W=>I pre W/\W.heap[l]?=some (.loop (lp .ready none))/\W.heap[D]?=some (.deferred (some []))
 let Jx:List α->World->Prop:=fun pre W=>Ix pre W/\W.heap[l]?=some (.loop (lp .done (some (.exit id))))/\W.heap[D]?=some (.deferred (some []))
 have hJ:∀ s X Y,J s X->X.grownBy Y none->J s Y:=fun s X Y ⟨h1,h2,h3⟩ hg' =>
  ⟨hI s X Y none h1 hg' (fun _ e=>by cases e),(hg'.block l (Array.getElem?_eq_some_iff.1 h2).1 (by simp)).trans h2,(hg'.block D (Array.getElem?_eq_some_iff.1 h3).1 (by simp)).trans h3⟩
 have hround:qpi P (n - 1 - 1) l B encs J Jx xs:=by
  rintro pre x post W hxs ⟨hi,hl,hd⟩
  have hlt:=(Array.getElem?_eq_some_iff.1 hl).1
  refine ⟨fn,_,assign,body,run_yield hl (hps x),roundIn_of_wpIn hfn (hassign l x W _ ⟨_,run_beginRound hl rfl,?_⟩)⟩
  obtain ⟨X,hX'⟩:∃ X,X=W.putObj l (.loop (lp .busy none)):=⟨_,rfl⟩
  have xl:X.heap[l]?=some (.loop (lp .busy none)):=by rw [hX'];exact World.putObj_heap_same hlt
  have xD:X.heap[D]?=some (.deferred (some [])):=by rw [hX'];exact qdg hd (by simp [l,D])
  have xI:I pre X:=by rw [hX'];exact hI.putObj _ hi (by simp [l]) hl rfl
  have xB:Below B W X:=by rw [hX'];exact qnd _ hlt (by simp only [l];omega)
  show body.wpIn _ _ _ _ _ (W.putObj l (.loop (lp .busy none)))
  rw [<-hX']
  refine wpIn_mono (hbody l pre x post X hxs xI) ?_
  rintro e a3 Y ⟨hk,hb,hor⟩
  have yl:=hk.same _ _ xl rfl
  have yD:=hk.same _ _ xD rfl
  have ylt:=(Array.getElem?_eq_some_iff.1 yl).1
  have hB3:∀ o',Below B W (Y.putObj l o'):=fun o'=>(xB.trans hb).trans (qnd _ ylt (by simp only [l];omega))
  rcases hor with ⟨rfl,hiY⟩ | ⟨rfl,hiY⟩
  ·exact ⟨_,_,run_endRound none yl,hB3 _,.inl ⟨rfl,hI.putObj _ hiY (by simp [l]) yl rfl,World.putObj_heap_same ylt,qdg yD (by simp [l,D])⟩⟩
  ·exact ⟨_,_,run_endRound (some (.exit id)) yl,hB3 _,.inr ⟨rfl,hX.putObj _ hiY (by simp [l]) yl rfl,World.putObj_heap_same ylt,qdg yD (by simp [l,D])⟩⟩
 refine (hseq l J Jx V ⟨gV.os,gV.tape,gV.output,gV.size,fun k hk=>gV.block k hk (by simp)⟩ hJ hround ⟨hI [] w V none h0 gV (fun _ e=>by cases e),vl,vD⟩).mono ?_
 rintro e W2 ⟨⟨v,rfl⟩,⟨hi,hl,hd⟩ | ⟨pre,hi,hl,hd⟩⟩
 ·exact ⟨none,_,run_endLoop hl (by simp [lp]),hdone D _ (Nat.le_refl _) (hI.putObj _ hi (by simp [l]) hl rfl) (qdg hd (by simp [l,D]))⟩
 ·exact ⟨some (.exit id),_,run_endLoop hl (by simp [lp]),hstop D pre _ (Nat.le_refl _) (hX.putObj _ hi (by simp [l]) hl rfl) (qdg hd (by simp [l,D]))⟩
end Go.Proofs.YtoglebfiobofoaaGreatDoor
/- FrW: . -/
namespace Go.Proofs.YtoglebfiobofoaaGreatDoor
set_option maxRecDepth 100000
set_option maxHeartbeats 16000000
open Go.RowKit Go.Shelf
attribute [local go_sem] Oper.semAt_some
def frEnc (x:ByteArray × Nat):Array Value:=#[.string x.1,.int .i64 (x.2:Int)]
theorem faV_none:faV none = .tuple #[.string ⟨#[]⟩,.int .i64 0,.bool false]:=rfl
theorem faV_some (r:ByteArray) (b:Nat):faV (some (r,b)) = .tuple #[.string r,.int .i64 (b:Int),.bool true]:=rfl
theorem grown_of {w w':World} (h:Below w.heap.size w w'):w.grownBy w' none:=⟨h.os,h.tape,h.output,h.size,fun k hk _=>h.block k hk⟩
theorem frames_or (s:ByteArray) (w0:World) (ht:SumTab w0) (m l:Nat) (J Jx:List (ByteArray × Nat)->World->Prop) (hJ:∀ p X Y,J p X->X.grownBy Y none->J p Y)
  (hY:qpi Tryz.prog (m - 1) l w0.heap.size frEnc J Jx (W.framesOf s)) (W0:World) (hW:Below w0.heap.size w0 W0) (h0:J [] W0) :
  CallsIn Fence.wide m Tryz.prog 75 #[.string s,.func (.yield l) #[] #[]] W0 fun e W'=>(∃ v,e = .returned v)/\(J (W.framesOf s) W'\/∃ pre,Jx pre W'):=by
 have HT:Hid (SumTab w0):=ht
 have HJ:Hid _:=hJ
 have HY:Hid _:=hY
 clear ht hJ hY
 by_cases hl:20000<s.size
 ·have hl':(20000:Int)<(s.size:Int):=by omega
  have e0:W.framesOf s=[]:=by unfold W.framesOf;rw [if_pos hl]
  rw [e0]
  refine callsIn_of_wp Tryz.func75 rfl trivial ?_ rfl
  simp only [Tryz.ntmps75,List.size_toArray,List.length_cons,List.length_nil,Nat.reduceAdd,Nat.reduceSub,Array.replicate_succ,Array.replicate_zero,List.push_toArray,List.append_toArray,List.nil_append,List.cons_append]
  gi_wp2
  refine bodyPost_ret (results_none rfl _ _ _) rfl ?_
  exact ⟨⟨_,rfl⟩,.inl h0⟩
 ·have hl':¬ (20000:Int)<(s.size:Int):=by omega
  have e0:W.framesOf s=W.framesFrom s 0:=by unfold W.framesOf;rw [if_neg hl]
  have HE:Hid _:=e0
  clear e0
  refine callsIn_of_wp Tryz.func75 rfl trivial ?_ rfl
  simp only [Tryz.ntmps75,List.size_toArray,List.length_cons,List.length_nil,Nat.reduceAdd,Nat.reduceSub,Array.replicate_succ,Array.replicate_zero,List.push_toArray,List.append_toArray,List.nil_append,List.cons_append]
  gi_wp2
  gi_loopw [4] (fun i wr=>∃ (a:Nat) (pre:List (ByteArray × Nat)),i = .int .i64 a/\a<=s.size/\W.framesOf s=pre++W.framesFrom s a/\J pre wr/\Below w0.heap.size w0 wr) (fun i _=>s.size - (intOf i).toNat)
  case atStart=>exact ⟨0,[],rfl,Nat.zero_le _,HE.out,h0,hW⟩
  case round =>
   obtain ⟨a,pre,rfl,hle,hall,hj,hb⟩:=hrel
   have HA:Hid _:=hall
   clear hall
   by_cases hlt:a<s.size
   ·have a1:(a:Int)<(s.size:Int):=by omega
    cases hf:W.frameAt s a with
    | none =>
     have HN:Hid (W.framesOf s=pre):=by have:=HA.out;rw [W.framesFrom_none hf,List.append_nil] at this;exact this
     have hc:=qiv s a wr (HT.out.stays hb) (by omega) hle
     rw [hf,faV_none] at hc
     have hc':=callsIn_wide (n:=m - 1).2 hc
     clear hc hf
     gi_wp2_with (refine ⟨trivial,(fun h=>by cases h),?_⟩;gi_at_call 109;refine hc'.mono ?_;clear hc';rintro e w1 ⟨rfl,hb1⟩)
     refine ⟨fun _ h=>(by cases h),?_⟩
     gi_wp2
     refine bodyPost_ret (results_none rfl _ _ _) rfl ?_
     exact ⟨⟨_,rfl⟩,.inl (by rw [HN.out];exact HJ.out _ _ _ hj (grown_of hb1))⟩
    | some x =>
     obtain ⟨r,b⟩:=x
     have hbd:=W.frameAt_bounds hf
     obtain ⟨hbd1,hbd2,hbd3,hbd4⟩:=hbd
     have hn:W.framesOf s=(pre++[(r,b)])++W.framesFrom s b:=by have:=HA.out;rw [W.framesFrom_some hf] at this;rw [this];simp
     have HN:Hid _:=hn
     clear hn
     have hxs:W.framesOf s=pre++(r,b)::W.framesFrom s b:=by rw [HN.out];simp
     have hc:=qiv s a wr (HT.out.stays hb) (by omega) hle
     rw [hf,faV_some] at hc
     have hc':=callsIn_wide (n:=m - 1).2 hc
     clear hc hf
     gi_wp2_with (refine ⟨trivial,(fun h=>by cases h),?_⟩;gi_at_call 109;refine hc'.mono ?_;clear hc';rintro e w1 ⟨rfl,hb1⟩;obtain ⟨fn,tmps,assign,body,hy,hR⟩:=HY.out pre (r,b) _ w1 hxs (HJ.out _ _ _ hj (grown_of hb1));dsimp only [frEnc] at hy)
     refine ⟨(fun h=>by cases h),hR.mono ?_⟩
     rintro e w2 ⟨hb2,⟨rfl,hj2⟩ | ⟨rfl,hj2⟩⟩
     ·gi_wp2
      go_roundw
      case rel=>exact ⟨b,pre++[(r,b)],rfl,hbd2,HN.out,hj2,(hb.trans (hb1.mono hb.size)).trans hb2⟩
      case measure=>simp [intOf];omega
     ·gi_wp2
      refine bodyPost_ret (results_none rfl _ _ _) rfl ?_
      exact ⟨⟨_,rfl⟩,.inr ⟨_,hj2⟩⟩
   ·have a1:¬ (a:Int)<(s.size:Int):=by omega
    have HN:Hid (W.framesOf s=pre):=by have:=HA.out;rw [W.framesFrom_over (by omega),List.append_nil] at this;exact this
    gi_wp2
    go_end0
    exact ⟨⟨_,rfl⟩,.inl (by rw [HN.out];exact hj)⟩
end Go.Proofs.YtoglebfiobofoaaGreatDoor
/- DiskL: . -/
namespace Go.Proofs.YtoglebfiobofoaaGreatDoor
set_option maxRecDepth 100000
set_option maxHeartbeats 16000000
open Go.RowKit
attribute [local go_sem ↓] Go.wp_at_zero Go.wp_at_succ
variable {fs:List FM} {cap g4 y4:Nat} {a:Option Addr} {w w':World}
def K5 (w:World) (a:Option Addr) (fs:List FM) (cap g4 y4:Nat) (w':World):Prop:=
 WCells w' y4 [.slice (some ⟨g4,0,none⟩) fs.length fs.length]/\WCells w' w.heap.size [.slice a fs.length cap]/\FRow w' a fs/\WCells w' g4 (fcs fs)/\Below w.heap.size w w'
theorem K5.keep {w w' w'':World} (h:w'.cell? ⟨y4,0,none⟩=some (.slice (some ⟨g4,0,none⟩) fs.length fs.length)/\w'.cell? ⟨w.heap.size,0,none⟩=some (.slice a fs.length cap)/\Sh (K5 w a fs cap g4 y4 w')) (hb:Below w'.heap.size w' w'') :
  w''.cell? ⟨y4,0,none⟩=some (.slice (some ⟨g4,0,none⟩) fs.length fs.length)/\w''.cell? ⟨w.heap.size,0,none⟩=some (.slice a fs.length cap)/\Sh (K5 w a fs cap g4 y4 w''):=by
 obtain ⟨h1,h2,h3,h4,h5⟩:=h.2.2.1
 exact ⟨((h1.grow hb).2 0 _ rfl).1,((h2.grow hb).2 0 _ rfl).1,⟨h1.grow hb,h2.grow hb,h3.stays hb,h4.grow hb,h5.trans (hb.mono h5.size)⟩⟩
theorem K5.drew (h:Sh (K5 w a fs cap g4 y4 w')):Sh (K5 w a fs cap g4 y4 w'.drew):=
 ⟨h.1.1,h.1.2.1,h.1.2.2.1,h.1.2.2.2.1,h.1.2.2.2.2.drew⟩
theorem K5.toDisk (h:w'.cell? ⟨y4,0,none⟩=some (.slice (some ⟨g4,0,none⟩) fs.length fs.length)/\w'.cell? ⟨w.heap.size,0,none⟩=some (.slice a fs.length cap)/\Sh (K5 w a fs cap g4 y4 w')) (hf:FFit fs) (hl:fs.length<=1048576) :
  Calls Tryz.prog 20 #[.agg #[.slice a fs.length cap]] w' fun e w''=>qpe fs w' e w'':=qkn a fs cap w' h.2.2.1.2.2.1 hf hl
theorem K5.eqDisk {cap g4 y4 g6:Nat} (h:w'.cell? ⟨y4,0,none⟩=some (.slice (some ⟨g4,0,none⟩) fs.length fs.length)/\w'.cell? ⟨w.heap.size,0,none⟩=some (.slice a fs.length cap)/\Sh (K5 w a fs cap g4 y4 w')) (h6:Sh (WCells w' g6 (fcs fs))) (hl:fs.length<=1048576) :
  Calls Tryz.prog 23 #[.agg #[.slice (some ⟨g4,0,none⟩) fs.length fs.length],.agg #[.slice (some ⟨g6,0,none⟩) fs.length fs.length]] w' fun e w''=>e = .returned (.bool true)/\Below w'.heap.size w' w'':=
 qio _ _ fs fs.length fs.length w' h.2.2.1.2.2.2.1.crow h6.1.crow hl
def ImplDiskOk:Prop:=∀ (a:Option Addr) (fs:List FM) (cap:Nat) (w:World),FRow w a fs->FFit fs->fs.length<=1048576->Calls Tryz.prog 77 #[.agg #[.slice a fs.length cap]] w fun e w'=>e = .returned (.bool (dOkB fs))/\Below w.heap.size w w'
def ImplFileAt:Prop:=∀ (a:Option Addr) (fs:List FM) (cap:Nat) (n:ByteArray) (w:World),FRow w a fs->FFit fs->fs.length<=1048576->fsum fs<=1048576->n.size<=1048576->Calls Tryz.prog 39 #[.agg #[.slice a fs.length cap],.string n] w fun e w'=>e = .returned (fileV fs n)/\Below w.heap.size w w'
theorem fileNameOk_any (s:ByteArray) (w:World) :
  Calls Tryz.prog 112 #[.string s] w fun e w'=>e = .returned (.bool (decide (1<=s.size/\s.size<=8)))/\w'=w:=by
 by_cases h1:1<=s.size
 ·by_cases h2:s.size<=8
  ·have e:decide (1<=s.size/\s.size<=8)=true:=by simp;omega
   rw [e]
   have h1':(1:Int)<=(s.size:Int):=by omega
   have h2':(s.size:Int)<=8:=by omega
   go_enter Tryz.func112,Tryz.ntmps112
   go_wp2_with fail
   go_ret
   exact ⟨rfl,rfl⟩
  ·have e:decide (1<=s.size/\s.size<=8)=false:=by simp;omega
   rw [e]
   have h1':(1:Int)<=(s.size:Int):=by omega
   have h2':¬ (s.size:Int)<=8:=by omega
   go_enter Tryz.func112,Tryz.ntmps112
   go_wp2_with fail
   go_ret
   exact ⟨rfl,rfl⟩
 ·have e:decide (1<=s.size/\s.size<=8)=false:=by simp;omega
  rw [e]
  have h1':¬ (1:Int)<=(s.size:Int):=by omega
  go_enter Tryz.func112,Tryz.ntmps112
  go_wp2_with fail
  go_ret
  exact ⟨rfl,rfl⟩
theorem qbp (s:ByteArray) (w:World) (b:Bool) (h:decide (1<=s.size/\s.size<=8)=b):Calls Tryz.prog 112 #[.string s] w fun e w'=>e = .returned (.bool b)/\w'=w:=by
 have:=fileNameOk_any s w
 rwa [h] at this
theorem qme (a b:List UInt8):Op.bytesLess a b = !(Op.bytesLess b a||b==a):=by
 rw [bytesLess_eq,bytesLess_eq]
 by_cases h:a<b
 ·have h1:¬ b<a:=List.lt_asymm h
  have h2:b ≠ a:=fun e=>by subst e;exact List.lt_irrefl _ h
  simp [h,h1,h2]
 ·by_cases h2:b=a
  ·subst h2;simp [List.lt_irrefl]
  ·have h3:b<a:=by
    by_cases h4:b<a
    ·exact h4
    ·exact absurd (List.le_antisymm (List.not_lt.1 h) (List.not_lt.1 h4)) h2
   simp [h,h3]
theorem implDiskOk:ImplDiskOk:=by
 intro a fs cap w hr hf hl
 have hb0:Below w.heap.size w (w.alloc (.cells #[.slice a fs.length cap] 28)):=(Below.refl _ _).alloc (Nat.le_refl _) _
 by_cases h30:30<fs.length
 ·rw [qej (fun h=>by have:=h.1;omega)]
  have h30':(30:Int)<(fs.length:Int):=by omega
  clear hr hf
  go_enter Tryz.func77,Tryz.ntmps77
  go_wp2_with fail
  go_ret
  exact ⟨rfl,hb0⟩
 ·have h30':¬ (30:Int)<(fs.length:Int):=by omega
  have HR:Hid (FRow w a fs):=hr
  have HF:Hid (FFit fs):=hf
  have hbox:=qad w #[.slice a fs.length cap] 28
  have HX:Hid (WCells (w.alloc (.cells #[.slice a fs.length cap] 28)) w.heap.size [.slice a fs.length cap]):=hbox
  have HB0:Hid (Below w.heap.size w (w.alloc (.cells #[.slice a fs.length cap] 28))):=hb0
  clear hr hf hbox hb0
  generalize hO:dOkB fs=O
  have HO:Hid (dOkB fs=O):=hO
  clear hO
  go_enter Tryz.func77,Tryz.ntmps77
  go_wp2_with fail
  go_loopw [12] (fun i wr=>∃ (k:Nat),i = .int .i64 k/\k<=fs.length/\(∀ j,j<k->FAt fs j)/\WCells wr w.heap.size [.slice a fs.length cap]/\Below w.heap.size w wr) (fun i _=>fs.length - (intOf i).toNat)
  case atStart=>exact ⟨0,rfl,Nat.zero_le _,fun j hj=>by omega,HX.out,HB0.out⟩
  case round =>
   obtain ⟨k,rfl,hk,hgood,hx,hb⟩:=hrel
   have HGD:Hid (∀ j,j<k->FAt fs j):=hgood
   have x0:=(hx.2 0 _ rfl).1
   by_cases hlt:k<fs.length
   ·obtain ⟨b,off,rfl,lb,hc⟩:=FRow.at (HR.out.stays hb) (by omega)
    obtain ⟨d0,d1,d2⟩:=hc k hlt
    obtain ⟨f,hfe⟩:∃ f,f=fs[k]:=⟨_,rfl⟩
    rw [<-hfe] at d0 d1 d2
    have HFE:Hid (fs.getD k default=f):=(qbn fs k hlt).trans hfe.symm
    have k0:(0:Int)<=(k:Int):=by omega
    have k1:(k:Int)<(fs.length:Int):=by omega
    have hbx:Below w.heap.size w (wr.alloc (.cells #[.string f.name,.string f.text,.int .i64 f.kept] 116)):=hb.alloc hb.size _
    have HBX:Hid (Below w.heap.size w (wr.alloc (.cells #[.string f.name,.string f.text,.int .i64 f.kept] 116))):=hbx
    have hxx:=hx.alloc (.cells #[.string f.name,.string f.text,.int .i64 f.kept] 116)
    have HXX:Hid (WCells (wr.alloc (.cells #[.string f.name,.string f.text,.int .i64 f.kept] 116)) w.heap.size [.slice (some ⟨b,off,none⟩) fs.length cap]):=hxx
    have y0:=(hxx.2 0 _ rfl).1
    have HXN:∀ q,WCells ((wr.alloc (.cells #[.string f.name,.string f.text,.int .i64 f.kept] 116)).drewN q) w.heap.size [.slice (some ⟨b,off,none⟩) fs.length cap]:=fun q=>hxx
    have HBN:∀ q,Below w.heap.size w ((wr.alloc (.cells #[.string f.name,.string f.text,.int .i64 f.kept] 116)).drewN q):=fun q=>hbx.trans ⟨rfl,rfl,rfl,Nat.le_refl _,fun _ _=>rfl⟩
    have lb':b<wr.heap.size:=lb
    clear hfe hbx hxx hx
    by_cases hA:decide (1<=f.name.size/\f.name.size<=8)=true
    ·by_cases hD:0<k->Op.bytesLess (fs.getD (k - 1) default).name.toList f.name.toList=true
     ·have HD:Hid (0<k->Op.bytesLess (fs.getD (k - 1) default).name.toList f.name.toList=true):=hD
      by_cases hB:f.text.size<=20000/\0<=f.kept/\f.kept<=(f.text.size:Int)
      ·have hB':¬ (20000:Int)<(f.text.size:Int):=by omega
       have hB2:¬ f.kept<0:=by omega
       have hB3:¬ (f.text.size:Int)<f.kept:=by omega
       have HBB:Hid (f.text.size<=20000/\0<=f.kept/\f.kept<=(f.text.size:Int)):=hB
       clear hB
       by_cases hk0:0<k
       ·obtain ⟨p0,p1,p2⟩:=hc (k - 1) (by omega)
        obtain ⟨f1,hf1⟩:∃ f1,f1=fs[k - 1]:=⟨_,rfl⟩
        rw [<-hf1] at p0
        have HF1:Hid (fs.getD (k - 1) default=f1):=(qbn fs (k - 1) (by omega)).trans hf1.symm
        have q0:(wr.alloc (.cells #[.string f.name,.string f.text,.int .i64 f.kept] 116)).cell? ⟨b,off+(k - 1)*3,none⟩=some (.string f1.name):=(((Below.refl _ _).alloc (Nat.le_refl _) _:Below wr.heap.size wr (wr.alloc (.cells #[.string f.name,.string f.text,.int .i64 f.kept] 116))).cell (p:=⟨b,off+(k - 1)*3,none⟩) lb').trans p0
        have hkp:(0:Int)<(k:Int):=by omega
        have hk1:(k:Int) - 1=((k - 1:Nat):Int):=by omega
        have hk2:(0:Int)<=((k - 1:Nat):Int):=by omega
        have hk3:((k - 1:Nat):Int)<(fs.length:Int):=by omega
        have hle:(Op.bytesLess f.name.toList f1.name.toList||f.name.toList==f1.name.toList)=false:=by
         have h2:=hD hk0
         rw [HF1.out,qme] at h2
         simpa using h2
        clear hc hf1 p0 p1 p2 hD
        go_wp2_with fail
        go_quiet (first
         | (go_at_call 112;exact Calls.quiet_of_same (qbp _ _ true hA)))
        go_wp2_with fail
        go_roundw
        case rel=>exact ⟨k+1,by go_num,by omega,fun j hj=>by rcases Nat.lt_succ_iff_lt_or_eq.1 hj with h | h;exact HGD.out j h;subst h;exact ⟨by rw [HFE.out];exact ⟨of_decide_eq_true hA,HBB.out.1,HBB.out.2.1,HBB.out.2.2⟩,fun h=>by rw [HFE.out];exact HD.out h⟩,HXN _,HBN _⟩
        case measure=>simp [intOf];omega
       ·have hkn:decide ((0:Int)<(k:Int))=false:=by simp;omega
        clear hc hD
        go_wp2_with fail
        go_quiet (first
         | (go_at_call 112;exact Calls.quiet_of_same (qbp _ _ true hA)))
        go_wp2_with fail
        go_roundw
        case rel=>exact ⟨k+1,by go_num,by omega,fun j hj=>by rcases Nat.lt_succ_iff_lt_or_eq.1 hj with h | h;exact HGD.out j h;subst h;exact ⟨by rw [HFE.out];exact ⟨of_decide_eq_true hA,HBB.out.1,HBB.out.2.1,HBB.out.2.2⟩,fun h=>absurd h hk0⟩,HXN _,HBN _⟩
        case measure=>simp [intOf];omega
      ·have HE:Hid (O=false):=HO.out.symm.trans (qej (fun h=>hB (by have h2:=(h.2 k hlt).1;rw [HFE.out] at h2;exact ⟨h2.2.1,h2.2.2.1,h2.2.2.2⟩)))
       by_cases hk0:0<k
       ·obtain ⟨p0,p1,p2⟩:=hc (k - 1) (by omega)
        obtain ⟨f1,hf1⟩:∃ f1,f1=fs[k - 1]:=⟨_,rfl⟩
        rw [<-hf1] at p0
        have HF1:Hid (fs.getD (k - 1) default=f1):=(qbn fs (k - 1) (by omega)).trans hf1.symm
        have q0:(wr.alloc (.cells #[.string f.name,.string f.text,.int .i64 f.kept] 116)).cell? ⟨b,off+(k - 1)*3,none⟩=some (.string f1.name):=(((Below.refl _ _).alloc (Nat.le_refl _) _:Below wr.heap.size wr (wr.alloc (.cells #[.string f.name,.string f.text,.int .i64 f.kept] 116))).cell (p:=⟨b,off+(k - 1)*3,none⟩) lb').trans p0
        have hkp:(0:Int)<(k:Int):=by omega
        have hk1:(k:Int) - 1=((k - 1:Nat):Int):=by omega
        have hk2:(0:Int)<=((k - 1:Nat):Int):=by omega
        have hk3:((k - 1:Nat):Int)<(fs.length:Int):=by omega
        have hle:(Op.bytesLess f.name.toList f1.name.toList||f.name.toList==f1.name.toList)=false:=by
         have h2:=hD hk0
         rw [HF1.out,qme] at h2
         simpa using h2
        clear hc hf1 p0 p1 p2 hD
        rcases (by omega:(20000:Int)<(f.text.size:Int)\/(¬ (20000:Int)<(f.text.size:Int)/\f.kept<0)\/(¬ (20000:Int)<(f.text.size:Int)/\¬ f.kept<0/\(f.text.size:Int)<f.kept)) with c1 | ⟨c1,c2⟩ | ⟨c1,c2,c3⟩
        all_goals
         clear hB
         go_wp2_with fail
         go_quiet (first
          | (go_at_call 112;exact Calls.quiet_of_same (qbp _ _ true hA)))
         go_wp2_with fail
         go_ret
         exact ⟨congrArg (fun b=>Ending.returned (.bool b)) HE.out.symm,HBN _⟩
       ·have hkn:decide ((0:Int)<(k:Int))=false:=by simp;omega
        clear hc hD
        rcases (by omega:(20000:Int)<(f.text.size:Int)\/(¬ (20000:Int)<(f.text.size:Int)/\f.kept<0)\/(¬ (20000:Int)<(f.text.size:Int)/\¬ f.kept<0/\(f.text.size:Int)<f.kept)) with c1 | ⟨c1,c2⟩ | ⟨c1,c2,c3⟩
        all_goals
         clear hB
         go_wp2_with fail
         go_quiet (first
          | (go_at_call 112;exact Calls.quiet_of_same (qbp _ _ true hA)))
         go_wp2_with fail
         go_ret
         exact ⟨congrArg (fun b=>Ending.returned (.bool b)) HE.out.symm,HBN _⟩
     ·have HE:Hid (O=false):=HO.out.symm.trans (qej (fun h=>hD (fun hk0=>by have h2:=(h.2 k hlt).2 hk0;rw [HFE.out] at h2;exact h2)))
      have hk0:0<k:=by
       by_cases h:0<k
       ·exact h
       ·exact absurd (fun h'=>absurd h' h) hD
      obtain ⟨p0,p1,p2⟩:=hc (k - 1) (by omega)
      obtain ⟨f1,hf1⟩:∃ f1,f1=fs[k - 1]:=⟨_,rfl⟩
      rw [<-hf1] at p0
      have HF1:Hid (fs.getD (k - 1) default=f1):=(qbn fs (k - 1) (by omega)).trans hf1.symm
      have q0:(wr.alloc (.cells #[.string f.name,.string f.text,.int .i64 f.kept] 116)).cell? ⟨b,off+(k - 1)*3,none⟩=some (.string f1.name):=(((Below.refl _ _).alloc (Nat.le_refl _) _:Below wr.heap.size wr (wr.alloc (.cells #[.string f.name,.string f.text,.int .i64 f.kept] 116))).cell (p:=⟨b,off+(k - 1)*3,none⟩) lb').trans p0
      have hkp:(0:Int)<(k:Int):=by omega
      have hk1:(k:Int) - 1=((k - 1:Nat):Int):=by omega
      have hk2:(0:Int)<=((k - 1:Nat):Int):=by omega
      have hk3:((k - 1:Nat):Int)<(fs.length:Int):=by omega
      have hle:(Op.bytesLess f.name.toList f1.name.toList||f.name.toList==f1.name.toList)=true:=by
       have h2:¬ Op.bytesLess (fs.getD (k - 1) default).name.toList f.name.toList=true:=fun h=>hD (fun _=>h)
       rw [HF1.out,qme] at h2
       cases hX:(Op.bytesLess f.name.toList f1.name.toList||f.name.toList==f1.name.toList) with
       | true=>rfl
       | false=>rw [hX] at h2;exact absurd rfl h2
      clear hc hf1 p0 p1 p2 hD
      go_wp2_with fail
      go_quiet (first
       | (go_at_call 112;exact Calls.quiet_of_same (qbp _ _ true hA)))
      go_wp2_with fail
      go_ret
      exact ⟨congrArg (fun b=>Ending.returned (.bool b)) HE.out.symm,HBN _⟩
    ·replace hA:decide (1<=f.name.size/\f.name.size<=8)=false:=by simpa using hA
     clear hc
     go_wp2_with fail
     go_quiet (first
      | (go_at_call 112;exact Calls.quiet_of_same (qbp _ _ false hA)))
     go_wp2_with fail
     go_ret
     exact ⟨congrArg (fun b=>Ending.returned (.bool b)) ((HO.out.symm.trans (qej (fun h=>of_decide_eq_false hA (by have h2:=(h.2 k hlt).1;rw [HFE.out] at h2;exact h2.1)))).symm),HBN _⟩
   ·have e:k=fs.length:=by omega
    subst e
    go_wp2_with fail
    go_ret
    exact ⟨congrArg (fun b=>Ending.returned (.bool b)) ((HO.out.symm.trans (qpx ⟨by omega,fun j hj=>HGD.out j (by omega)⟩)).symm),hb⟩
theorem fsum_mem {f:FM} (h:f ∈ fs):f.name.size+f.text.size<=fsum fs:=by
 induction fs with
 | nil=>simp at h
 | cons g fs ih =>
  simp only [fsum]
  rcases List.mem_cons.1 h with rfl | h
  ·omega
  ·have:=ih h;omega
theorem clone_any (s:ByteArray) (w:World) (h:s.size<=281474976710656):Calls Tryz.prog 81 #[.string s] w fun e w'=>e = .returned (.string s)/\Below w.heap.size w w':=by
 go_enter Tryz.func81,Tryz.ntmps81
 go_wp2_with fail
 refine (Tryz.stringslite_Clone s _ h).mono ?_
 rintro e w1 ⟨rfl,hb⟩
 go_wp2_with fail
 go_ret
 exact ⟨rfl,hb⟩
theorem qla:ImplFileAt:=by
 intro a fs cap n w hr hf hl hfs hn
 have HR:Hid (FRow w a fs):=hr
 have HFS:Hid (fsum fs<=1048576):=hfs
 have HX:Hid (WCells (w.alloc (.cells #[.slice a fs.length cap] 28)) w.heap.size [.slice a fs.length cap]):=qad w #[.slice a fs.length cap] 28
 have HB0:Hid (Below w.heap.size w (w.alloc (.cells #[.slice a fs.length cap] 28))):=(Below.refl _ _).alloc (Nat.le_refl _) _
 generalize hO:fileV fs n=O
 have HO:Hid (fileV fs n=O):=hO
 clear hr hf hfs hO
 go_enter Tryz.func39,Tryz.ntmps39
 go_wp2_with fail
 go_loopw [11] (fun i wr=>∃ (k:Nat),i = .int .i64 k/\k<=fs.length/\(∀ j,j<k->(fs.getD j default).name ≠ n)/\Below w.heap.size w wr) (fun i _=>fs.length - (intOf i).toNat)
 case atStart=>exact ⟨0,rfl,Nat.zero_le _,fun j hj=>by omega,HB0.out⟩
 case round =>
  obtain ⟨k,rfl,hk,hno,hb⟩:=hrel
  have HN:Hid (∀ j,j<k->(fs.getD j default).name ≠ n):=hno
  have HB:Hid (Below w.heap.size w wr):=hb
  clear hno
  by_cases hlt:k<fs.length
  ·obtain ⟨b,off,rfl,lb,hc⟩:=FRow.at (HR.out.stays hb) (by omega)
   obtain ⟨d0,d1,d2⟩:=hc k hlt
   obtain ⟨f,hfe⟩:∃ f,f=fs[k]:=⟨_,rfl⟩
   rw [<-hfe] at d0 d1 d2
   have HFE:Hid (fs.getD k default=f):=(qbn fs k hlt).trans hfe.symm
   have hsz:f.text.size<=281474976710656:=by have:=fsum_mem (fs:=fs) (f:=f) (by rw [hfe];exact List.getElem_mem hlt);have:=HFS.out;omega
   have k0:(0:Int)<=(k:Int):=by omega
   have k1:(k:Int)<(fs.length:Int):=by omega
   have HBX:Hid (Below w.heap.size w (wr.alloc (.cells #[.string f.name,.string f.text,.int .i64 f.kept] 116))):=hb.alloc hb.size _
   clear hfe hb hc
   by_cases hn:f.name=n
   ·have HNE:Hid (f.name=n):=hn
    have hq:(f.name.toList==n.toList)=true:=by rw [hn];simp
    clear hn
    go_wp2_with fail
    refine (clone_any f.text _ hsz).mono ?_
    rintro e w1 ⟨rfl,hb1⟩
    have HE:Hid (O = .tuple #[.string f.text,.bool true]):=by
     have:=qkq (n:=n) hlt (by rw [HFE.out];exact HNE.out) HN.out
     rw [HFE.out] at this
     exact HO.out.symm.trans this
    have HBY:Hid (Below w.heap.size w w1):=HBX.out.trans (hb1.mono HBX.out.size)
    clear hb1
    go_wp2_with fail
    go_ret2
    exact ⟨congrArg Ending.returned HE.out.symm,HBY.out⟩
   ·have hq:=qss hn
    have HNE:Hid (f.name ≠ n):=hn
    clear hn
    go_wp2_with fail
    go_roundw
    case rel=>exact ⟨k+1,by go_num,by omega,fun j hj=>by rcases Nat.lt_succ_iff_lt_or_eq.1 hj with h | h;exact HN.out j h;subst h;rw [HFE.out];exact HNE.out,HBX.out⟩
    case measure=>simp [intOf];omega
  ·have e:k=fs.length:=by omega
   subst e
   have HE:Hid (O = .tuple #[.string ⟨#[]⟩,.bool false]):=HO.out.symm.trans (qkp (fun f hf=>by
    obtain ⟨j,hj,rfl⟩:=List.getElem_of_mem hf
    rw [<-qbn fs j hj]
    exact HN.out j hj))
   clear hb
   go_wp2_with fail
   go_ret2
   exact ⟨congrArg Ending.returned HE.out.symm,HB.out⟩
end Go.Proofs.YtoglebfiobofoaaGreatDoor
/- LkP: . -/
namespace Go.Proofs.YtoglebfiobofoaaGreatDoor
set_option maxRecDepth 100000
set_option maxHeartbeats 16000000
variable {s:ByteArray} {id p:Int} {ns:List NM} {i:Nat}
def fid (ns:List NM) (id:Int):Option Nat:=ns.findIdx? (fun n=>n.id==id)
def fnm (ns:List NM) (p:Int) (s:ByteArray):Option Nat:=ns.findIdx? (fun n=>n.parent==p&&decide (n.name=s))
theorem find_take {α:Type} (P:α->Bool) (xs:List α) (k:Nat) (h:k<xs.length):(xs.take (k+1)).findIdx? P=match (xs.take k).findIdx? P with
  | some i=>some i
  | none=>if P xs[k]=true then some k else none:=by
 rw [List.take_succ_eq_append_getElem h,List.findIdx?_append]
 cases hf:(xs.take k).findIdx? P with
 | some i=>simp
 | none =>
  simp only [List.findIdx?_cons,List.findIdx?_nil,Option.none_or]
  have:(xs.take k).length=k:=by simp;omega
  by_cases hp:P xs[k]=true
  ·simp [hp,this]
  ·simp [hp]
theorem qbw (h:fid ns id=some i):∃ hi:i<ns.length,ns[i].id=id:=by
 obtain ⟨hi,h1,_⟩:=List.findIdx?_eq_some_iff_getElem.1 h
 exact ⟨hi,by simpa using h1⟩
theorem fid_none (h:fid ns id=none):∀ n ∈ ns,n.id ≠ id:=fun n hn=>by simpa using List.findIdx?_eq_none_iff.1 h n hn
theorem fid_of (hi:i<ns.length) (h:∀ j,j<i->∀ hj:j<ns.length,ns[j].id ≠ ns[i].id):fid ns ns[i].id=some i:=
 List.findIdx?_eq_some_iff_getElem.2 ⟨hi,by simp,fun j hj=>by simpa using h j hj (by omega)⟩
theorem qlc (h:fnm ns p s=some i):∃ hi:i<ns.length,ns[i].parent=p/\ns[i].name=s:=by
 obtain ⟨hi,h1,_⟩:=List.findIdx?_eq_some_iff_getElem.1 h
 exact ⟨hi,by simpa using h1⟩
theorem qqd (h:fnm ns p s=none):∀ n ∈ ns,n.parent=p->n.name ≠ s:=fun n hn=>by simpa using List.findIdx?_eq_none_iff.1 h n hn
theorem qno (h:fnm ns p s=some i):∀ j,j<i->∀ hj:j<ns.length,ns[j].parent=p->ns[j].name ≠ s:=by
 obtain ⟨hi,h1,h2⟩:=List.findIdx?_eq_some_iff_getElem.1 h
 exact fun j hj hjl=>by simpa using h2 j hj
theorem qnp (ns:List NM) (id:Int):atI ns id=match fid ns id with
  | some i=>(i:Int)
  | none=>-1:=rfl
inductive Ups (ns:List NM):Nat->Nat->Prop
 | root:Ups ns 0 0
 | step {i k d:Nat}:i<ns.length->i ≠ 0->fid ns (ns.getD i default).parent=some k->Ups ns k d->Ups ns i (d+1)
def Asc (ns:List NM):Prop:=(∀ i (hi:i<ns.length),0<i->(ns.getD (i - 1) default).id<ns[i].id)/\0<ns.length/\(ns.getD 0 default).id=1/\(ns.getD 0 default).parent=0
theorem Asc.lt (h:Asc ns):∀ j (hj:j<ns.length) i,i<j->(ns.getD i default).id<ns[j].id:=by
 intro j
 induction j with
 | zero=>intro _ i hi;omega
 | succ j ih =>
  intro hj i hi
  have h1:=h.1 (j+1) hj (by omega)
  simp only [Nat.add_sub_cancel] at h1
  rcases Nat.lt_or_ge i j with hl | hg
  ·have h2:=ih (by omega) i hl
   have e:(ns.getD j default)=ns[j]:=by simp [List.getD,(by omega:j<ns.length)]
   rw [e] at h1
   omega
  ·obtain rfl:i=j:=by omega
   exact h1
theorem getD_in (hi:i<ns.length):ns.getD i default=ns[i]:=by simp [List.getD,hi]
theorem Asc.fid (h:Asc ns) {i:Nat} (hi:i<ns.length):fid ns ns[i].id=some i:=
 fid_of hi fun j hj hjl=>by have:=h.lt i hi j hj;rw [getD_in hjl] at this;omega
theorem Asc.pos (h:Asc ns) {i:Nat} (hi:i<ns.length):1<=ns[i].id:=by
 rcases Nat.eq_zero_or_pos i with rfl | hp
 ·have:=h.2.2.1
  rw [getD_in hi] at this
  omega
 ·have:=h.lt i hi 0 hp
  rw [h.2.2.1] at this
  omega
theorem Asc.zero (h:Asc ns):Go.Proofs.YtoglebfiobofoaaGreatDoor.fid ns 0=none:=by
 cases hf:Go.Proofs.YtoglebfiobofoaaGreatDoor.fid ns 0 with
 | none=>rfl
 | some i =>
  obtain ⟨hi,e⟩:=qbw hf
  have:=h.pos hi
  omega
theorem Asc.one (h:Asc ns):Go.Proofs.YtoglebfiobofoaaGreatDoor.fid ns 1=some 0:=by
 have:=h.fid h.2.1
 rw [<-getD_in h.2.1,h.2.2.1] at this
 exact this
theorem climbs_ups (h:Asc ns):∀ (f:Nat) (id:Int) (i:Nat),climbs ns f id=true->Go.Proofs.YtoglebfiobofoaaGreatDoor.fid ns id=some i->i ≠ 0->∃ d,d<=f/\Ups ns i d:=by
 intro f
 induction f with
 | zero=>intro id i hc;simp [climbs] at hc
 | succ f ih =>
  intro id i hc hi h0
  unfold climbs at hc
  unfold Go.Proofs.YtoglebfiobofoaaGreatDoor.fid at hi
  rw [hi] at hc
  dsimp only at hc
  obtain ⟨hil,_⟩:=qbw (ns:=ns) hi
  by_cases h1:(ns.getD i default).parent=1
  ·exact ⟨1,by omega,Ups.step hil h0 (by rw [h1];exact h.one) Ups.root⟩
  ·rw [if_neg h1] at hc
   cases hk:Go.Proofs.YtoglebfiobofoaaGreatDoor.fid ns (ns.getD i default).parent with
   | none =>
    cases f with
    | zero=>simp [climbs] at hc
    | succ f =>
     unfold climbs at hc
     unfold Go.Proofs.YtoglebfiobofoaaGreatDoor.fid at hk
     rw [hk] at hc
     cases hc
   | some k =>
    by_cases hk0:k=0
    ·subst hk0
     have:=qbw hk
     obtain ⟨hl,e⟩:=this
     rw [<-getD_in hl,h.2.2.1] at e
     exact absurd e.symm h1
    ·obtain ⟨d,hd,hu⟩:=ih _ k hc hk hk0
     exact ⟨d+1,by omega,Ups.step hil h0 hk hu⟩
theorem ups_climbs (h:Asc ns):∀ (f i d:Nat),Ups ns i d->i ≠ 0->d<=f->climbs ns f (ns.getD i default).id=true:=by
 intro f
 induction f with
 | zero =>
  intro i d hu h0 hd
  cases hu with
  | root=>exact absurd rfl h0
  | step=>omega
 | succ f ih =>
  intro i d hu h0 hd
  cases hu with
  | root=>exact absurd rfl h0
  | @step _ k d' hil _ hk hu' =>
   unfold climbs
   have e:=h.fid hil
   rw [<-getD_in hil] at e
   unfold Go.Proofs.YtoglebfiobofoaaGreatDoor.fid at e
   rw [e]
   dsimp only
   split
   ·rfl
   ·rename_i hne
    obtain ⟨hkl,ek⟩:=qbw hk
    rw [<-ek,<-getD_in hkl]
    refine ih k d' hu' (fun e0=>hne ?_) (by omega)
    subst e0
    rw [<-ek,<-getD_in hkl]
    exact h.2.2.1
theorem Ups.lt (h:Asc ns) {i d:Nat} (hu:Ups ns i d):i<ns.length:=by
 cases hu with
 | root=>exact h.2.1
 | step hl=>exact hl
theorem Ups.det {i d e:Nat} (h:Ups ns i d) (h':Ups ns i e):d=e:=by
 induction h generalizing e with
 | root =>
  cases h' with
  | root=>rfl
  | step _ h0=>exact absurd rfl h0
 | step _ h0 hk _ ih =>
  cases h' with
  | root=>exact absurd rfl h0
  | step _ _ hk' hu' =>
   rw [hk] at hk'
   cases hk'
   rw [ih hu']
end Go.Proofs.YtoglebfiobofoaaGreatDoor
/- MapA: . -/
namespace Go.Proofs.YtoglebfiobofoaaGreatDoor
set_option maxRecDepth 100000
set_option maxHeartbeats 16000000
open Go.RowKit Go.Maps
def ptrE:Value->Option (DataW Unit × List MemPlace)
 | .pointer (some ⟨g,0,none⟩)=>some (.lit (.int .i64 g),[])
 | .pointer none=>some (.nil,[])
 | _=>none
def mapE:Value->Option (DataW Unit × List MemPlace)
 | .map (some g)=>some (.lit (.int .i64 g),[])
 | .map none=>some (.nil,[])
 | _=>none
def ptrV:Option Nat->Value
 | some g=>.pointer (some ⟨g,0,none⟩)
 | none=>.pointer none
def mapV:Option Nat->Value
 | some g=>.map (some g)
 | none=>.map none
theorem qjm {v:Value} {y:DataW Unit × List MemPlace} (h:ptrE v=some y):∃ c,v=ptrV c:=by
 unfold ptrE at h
 split at h
 ·exact ⟨some _,rfl⟩
 ·exact ⟨none,rfl⟩
 ·cases h
theorem qnv {v:Value} {g:Nat} {ps:List MemPlace} (h:ptrE v=some (.lit (.int .i64 g),ps)):v=ptrV (some g):=by
 obtain ⟨c,rfl⟩:=qjm h
 cases c with
 | none=>simp [ptrV,ptrE] at h
 | some c=>simp [ptrV,ptrE] at h;rw [show c=g by omega]
theorem ptrE_none {v:Value} {ps:List MemPlace} (h:ptrE v=some (.nil,ps)):v=ptrV none:=by
 obtain ⟨c,rfl⟩:=qjm h
 cases c with
 | none=>rfl
 | some c=>simp [ptrV,ptrE] at h
theorem qnw {v:Value} {y:DataW Unit × List MemPlace} (h:mapE v=some y):∃ c,v=mapV c:=by
 unfold mapE at h
 split at h
 ·exact ⟨some _,rfl⟩
 ·exact ⟨none,rfl⟩
 ·cases h
theorem mapE_some {v:Value} {g:Nat} {ps:List MemPlace} (h:mapE v=some (.lit (.int .i64 g),ps)):v=mapV (some g):=by
 obtain ⟨c,rfl⟩:=qnw h
 cases c with
 | none=>simp [mapV,mapE] at h
 | some c=>simp [mapV,mapE] at h;rw [show c=g by omega]
theorem mapE_none {v:Value} {ps:List MemPlace} (h:mapE v=some (.nil,ps)):v=mapV none:=by
 obtain ⟨c,rfl⟩:=qnw h
 cases c with
 | none=>rfl
 | some c=>simp [mapV,mapE] at h
abbrev ks (n:ByteArray):Lit:=.string n.data.toList
abbrev ki (x:Int):Lit:=.int .i64 x
theorem ks_inj {m n:ByteArray} (h:ks m=ks n):m=n:=ByteArray.ext (Array.toList_inj.1 (by simpa using h))
theorem qsd {m n:Int} (h:ki m=ki n):m=n:=by simpa using h
def Tells (D:DataW Unit) (l:Lit) (o:Option Nat):Prop:=match o with
 | some g=>∀ z,D.atKey l z = .lit (.int .i64 g)
 | none=>Maps.has D l=false
theorem Tells.at {D:DataW Unit} {l:Lit} {g:Nat} (h:Tells D l (some g)):D.atKey l .nil = .lit (.int .i64 g):=h .nil
theorem Tells.no {D:DataW Unit} {l:Lit} (h:Tells D l none):D.atKey l .nil = .nil:=Maps.atKey_of_not_has h .nil
theorem Tells.has {D:DataW Unit} {l:Lit} {o:Option Nat} (h:Tells D l o):Maps.has D l=o.isSome:=by
 cases o with
 | some g=>exact Maps.has_true_of_atKey h
 | none=>exact h
theorem Tells.put_same {D:DataW Unit} {l:Lit} {g:Nat} (hm:Maps.IsMap D) (hk:WideAt.IsKeyLit l):Tells (D.put l (.lit (.int .i64 g))) l (some g):=fun z=>Maps.atKey_put_same hm hk _ z
theorem Tells.put_other {D:DataW Unit} {l l':Lit} {o:Option Nat} {d:DataW Unit} (h:Tells D l o) (hne:l ≠ l'):Tells (D.put l' d) l o:=by
 cases o with
 | some g=>exact fun z=>by rw [Maps.atKey_put_other hne];exact h z
 | none=>exact (Maps.has_put_other hne _).trans h
theorem own_drewN {w:World} {P:Program} {k:TypeId} {R:Value->Option (DataW Unit × List MemPlace)} {b n:Nat} {D:DataW Unit} (h:w.ownsMap P k R b n D) (q:Nat):(w.drewN q).ownsMap P k R b n D:=h
theorem own_below {w w':World} {P:Program} {k:TypeId} {R:Value->Option (DataW Unit × List MemPlace)} {b n:Nat} {D:DataW Unit} (h:w.ownsMap P k R b n D) (hb:Below w.heap.size w w'):w'.ownsMap P k R b n D:=
 h.kept (row:=none) ⟨hb.os,hb.tape,hb.output,hb.size,fun k hk _=>hb.block k hk⟩ (by simp)
theorem own_turned {w w':World} {P:Program} {k:TypeId} {R:Value->Option (DataW Unit × List MemPlace)} {b n c:Nat} {D:DataW Unit} (h:w.ownsMap P k R b n D) (ht:w.mapTurned w' c) (hne:b ≠ c):w'.ownsMap P k R b n D:=
 h.kept ht.grown (by simpa using hne)
theorem qfb {w w':World} {b g:Nat} {L:List Value} (h:WCells w g L) (ht:w.mapTurned w' b):WCells w' g L:=by
 refine ⟨Nat.lt_of_lt_of_le h.1 ht.grown.size,fun i v hv=>?_⟩
 have h1:=h.2 i v hv
 have hne:g ≠ b:=by
  rintro rfl
  obtain ⟨es,clock,_,_,hb,_⟩:=ht
  have:=h1.1
  simp [World.cell?,hb] at this
 have hk:=ht.grown.block g h.1 (by simpa using hne)
 constructor
 ·have:=h1.1
  simp only [World.cell?,hk] at this ⊢
  exact this
 ·have:=h1.2
  simp only [World.frozen?,hk] at this ⊢
  exact this
section
variable {P:Program} {w:World} {k e t:TypeId} {b n:Nat} {D:DataW Unit} {key:Value} {l:Lit} {o:Option Nat}
theorem qcx (K:Keyed P k) (ht:P.underlying t=some (.map k e)) (hz:∀ w,(zeroValue e).run P w = .ok (.pointer none) w) (h:w.ownsMap P k ptrE b n D) (hkey:keyOf P k key=some l) (ho:Tells D l o) (q:Nat) :
  (Instr.lookup t (.map (some b)) key false).run P (w.drewN q) = .ok (ptrV o) (w.drewN q):=by
 obtain ⟨v,ps,hrun,hv⟩:=(own_drewN h q).lookup K ht (hz _) (zd:=.nil) (zp:=[]) rfl hkey
 cases o with
 | some g=>rw [ho.at] at hv;rw [hrun,qnv hv]
 | none=>rw [ho.no] at hv;rw [hrun,ptrE_none hv]
theorem qgq (K:Keyed P k) (ht:P.underlying t=some (.map k e)) (hz:∀ w,(zeroValue e).run P w = .ok (.map none) w) (h:w.ownsMap P k mapE b n D) (hkey:keyOf P k key=some l) (ho:Tells D l o) (q:Nat) :
  (Instr.lookup t (.map (some b)) key false).run P (w.drewN q) = .ok (mapV o) (w.drewN q):=by
 obtain ⟨v,ps,hrun,hv⟩:=(own_drewN h q).lookup K ht (hz _) (zd:=.nil) (zp:=[]) rfl hkey
 cases o with
 | some g=>rw [ho.at] at hv;rw [hrun,mapE_some hv]
 | none=>rw [ho.no] at hv;rw [hrun,mapE_none hv]
end
theorem keyI:Keyed Tryz.prog 3:=int_keyed Tryz.underlying3
theorem keyS:Keyed Tryz.prog 9:=string_keyed Tryz.underlying9
theorem qgn (w:World):(zeroValue 238).run Tryz.prog w = .ok (.pointer none) w:=by kernel_rfl
theorem qnk (w:World):(zeroValue 239).run Tryz.prog w = .ok (.map none) w:=by kernel_rfl
theorem qcc {x:Int} (h:(Lit.int .i64 x).wf=true):keyOf Tryz.prog 3 (.int .i64 x)=some (ki x):=keyOf_int_mk Tryz.underlying3 h
theorem qje {s:ByteArray} (h:s.size<=maxLen):keyOf Tryz.prog 9 (.string s)=some (ks s):=Go.WideMaps.keyOf_string_mk Tryz.underlying9 h
theorem eqg_ptr (x y:Operand) (o:Option Nat) (W:World):Sem.run Tryz.prog (eqGuard BinOp.eql 238 x y (ptrV o) (.pointer none)) W = .ok () W:=by
 cases o <;> simp [ptrV,eqGuard,go_sem]
theorem eq_ptr (o:Option Nat) (W:World):Sem.run Tryz.prog (binOp BinOp.eql 238 (ptrV o) (.pointer none)) W = .ok (.bool o.isNone) W:=by
 cases o <;> simp [ptrV,go_sem]
theorem eqg_map (x y:Operand) (o:Option Nat) (W:World):Sem.run Tryz.prog (eqGuard BinOp.eql 239 x y (mapV o) (.map none)) W = .ok () W:=by
 cases o <;> simp [mapV,eqGuard,go_sem]
theorem eq_map (o:Option Nat) (W:World):Sem.run Tryz.prog (binOp BinOp.eql 239 (mapV o) (.map none)) W = .ok (.bool o.isNone) W:=by
 cases o <;> kernel_rfl
def qea (r:NR) (p:Value):List Value:=[.int .i64 r.nd.id,.int .i64 r.nd.parent,.string r.nd.name,.bool r.nd.dir,.int .i64 r.nd.schema,.int .i64 r.nd.quota,.int .i64 r.nd.len,.slice r.loc r.nd.pieces.length r.cap,.int .i64 r.nd.writer,p]
def Par (ns:List NM) (p:Int):Prop:=∃ n ∈ ns,n.parent=p
theorem qru {ns:List NM} {p:Int} {s:ByteArray} {i:Nat} (h:fnm ns p s=some i):Par ns p:=by
 obtain ⟨hi,e,_⟩:=qlc h
 exact ⟨_,List.getElem_mem hi,e⟩
structure Lk (w:World) (B b1 b2:Nat) (rs:List NR) (G:Nat->Nat) (C:Int->Nat) (A:Nat->Option Nat):Prop where
 m1:∃ D,w.ownsMap Tryz.prog 3 ptrE b1 rs.length D/\∀ id,Tells D (ki id) ((fid (nds rs) id).map G)
 m2:∃ D,w.ownsMap Tryz.prog 3 mapE b2 rs.length D/\∀ p,(Par (nds rs) p->Tells D (ki p) (some (C p)))/\(¬ Par (nds rs) p->Tells D (ki p) none)
 m3:∀ p,Par (nds rs) p->B<=C p/\C p ≠ b1/\C p ≠ b2/\∃ D,w.ownsMap Tryz.prog 9 ptrE (C p) rs.length D/\∀ s,Tells D (ks s) ((fnm (nds rs) p s).map G)
 inj:∀ p q,Par (nds rs) p->Par (nds rs) q->C p=C q->p=q
 cells:∀ i (hi:i<rs.length),WCells w (G i) (qea rs[i] (ptrV ((A i).map G)))/\B<=G i
 one:∀ i j,i<rs.length->j<rs.length->G i=G j->i=j
 lo:B<=b1/\B<=b2/\b1 ≠ b2
def Kept (w w':World):Prop:=∀ g L,WCells w g L->WCells w' g L
theorem Kept.refl (w:World):Kept w w:=fun _ _ h=>h
theorem Kept.trans {a b c:World} (h:Kept a b) (h':Kept b c):Kept a c:=fun g L hg=>h' g L (h g L hg)
theorem Kept.below {w w':World} (h:Below w.heap.size w w'):Kept w w':=fun _ _ hg=>hg.grow h
theorem Kept.turned {w w':World} {b:Nat} (h:w.mapTurned w' b):Kept w w':=fun _ _ hg=>qfb hg h
theorem Lk.below {w w':World} {B b1 b2:Nat} {rs:List NR} {G:Nat->Nat} {C:Int->Nat} {A:Nat->Option Nat} (h:Lk w B b1 b2 rs G C A) (hb:Below w.heap.size w w'):Lk w' B b1 b2 rs G C A:=by
 obtain ⟨⟨D1,o1,t1⟩,⟨D2,o2,t2⟩,m3,inj,cells,one,lo⟩:=h
 refine ⟨⟨D1,own_below o1 hb,t1⟩,⟨D2,own_below o2 hb,t2⟩,fun p hp=>?_,inj,fun i hi=>⟨(cells i hi).1.grow hb,(cells i hi).2⟩,one,lo⟩
 obtain ⟨q1,q2,q3,D,o3,t3⟩:=m3 p hp
 exact ⟨q1,q2,q3,D,own_below o3 hb,t3⟩
theorem Lk.lt {w:World} {B b1 b2:Nat} {rs:List NR} {G:Nat->Nat} {C:Int->Nat} {A:Nat->Option Nat} (h:Lk w B b1 b2 rs G C A):b1<w.heap.size/\b2<w.heap.size/\(∀ i,i<rs.length->G i<w.heap.size)/\∀ p,Par (nds rs) p->C p<w.heap.size:=by
 obtain ⟨⟨D1,o1,_⟩,⟨D2,o2,_⟩,m3,inj,cells,one,lo⟩:=h
 refine ⟨o1.lt,o2.lt,fun i hi=>(cells i hi).1.1,fun p hp=>?_⟩
 obtain ⟨_,_,_,D,o3,_⟩:=m3 p hp
 exact o3.lt
theorem Lk.start {w:World} {B b1 b2:Nat} {G:Nat->Nat} {C:Int->Nat} {A:Nat->Option Nat} (h1:w.ownsMap Tryz.prog 3 ptrE b1 0 (.map [])) (h2:w.ownsMap Tryz.prog 3 mapE b2 0 (.map [])) (lo:B<=b1/\B<=b2/\b1 ≠ b2):Lk w B b1 b2 [] G C A:=
 ⟨⟨_,h1,fun _=>rfl⟩,⟨_,h2,fun _=>⟨fun ⟨_,h,_⟩=>by simp [nds] at h,fun _=>rfl⟩⟩,fun _ ⟨_,h,_⟩=>by simp [nds] at h,fun _ _ ⟨_,h,_⟩=>by simp [nds] at h,fun i hi=>absurd hi (by simp),fun i j hi=>absurd hi (by simp),lo⟩
def Gn (G:Nat->Nat) (n g:Nat):Nat->Nat:=fun i=>if i=n then g else G i
theorem qjf {G:Nat->Nat} {n g i:Nat} (h:i<n):Gn G n g i=G i:=if_neg (by omega)
theorem qnl {G:Nat->Nat} {n g:Nat}:Gn G n g n=g:=if_pos rfl
theorem qnm {α:Type} (P:α->Bool) (xs:List α) (x:α):(xs++[x]).findIdx? P=match xs.findIdx? P with
  | some i=>some i
  | none=>if P x=true then some xs.length else none:=by
 rw [List.findIdx?_append]
 cases hf:xs.findIdx? P with
 | some i=>simp
 | none =>
  simp only [List.findIdx?_cons,List.findIdx?_nil,Option.none_or]
  by_cases hp:P x=true
  ·simp [hp]
  ·simp [hp]
theorem fid_snoc {ns:List NM} {n:NM} {id:Int}:fid (ns++[n]) id=match fid ns id with
  | some i=>some i
  | none=>if n.id=id then some ns.length else none:=by
 unfold fid
 rw [qnm]
 cases ns.findIdx? (fun n=>n.id==id) with
 | some i=>rfl
 | none=>simp
theorem fnm_snoc {ns:List NM} {n:NM} {p:Int} {s:ByteArray}:fnm (ns++[n]) p s=match fnm ns p s with
  | some i=>some i
  | none=>if n.parent=p/\n.name=s then some ns.length else none:=by
 unfold fnm
 rw [qnm]
 cases ns.findIdx? (fun n=>n.parent==p&&decide (n.name=s)) with
 | some i=>rfl
 | none=>simp
theorem fid_map_snoc {rs:List NR} {r:NR} {G:Nat->Nat} {g:Nat} {id:Int}:(fid (nds (rs++[r])) id).map (Gn G rs.length g)=match fid (nds rs) id with
  | some i=>some (G i)
  | none=>if r.nd.id=id then some g else none:=by
 rw [qcp,fid_snoc]
 cases h:fid (nds rs) id with
 | some i =>
  obtain ⟨hi,_⟩:=qbw h
  rw [qaf] at hi
  simp [qjf hi]
 | none =>
  dsimp only
  split
  ·simp [qaf,qnl]
  ·rfl
theorem fnm_map_snoc {rs:List NR} {r:NR} {G:Nat->Nat} {g:Nat} {p:Int} {s:ByteArray}:(fnm (nds (rs++[r])) p s).map (Gn G rs.length g)=match fnm (nds rs) p s with
  | some i=>some (G i)
  | none=>if r.nd.parent=p/\r.nd.name=s then some g else none:=by
 rw [qcp,fnm_snoc]
 cases h:fnm (nds rs) p s with
 | some i =>
  obtain ⟨hi,_⟩:=qlc h
  rw [qaf] at hi
  simp [qjf hi]
 | none =>
  dsimp only
  split
  ·simp [qaf,qnl]
  ·rfl
theorem par_snoc {ns:List NM} {n:NM} {p:Int}:Par (ns++[n]) p↔Par ns p\/n.parent=p:=by
 unfold Par
 constructor
 ·rintro ⟨m,hm,e⟩
  rcases List.mem_append.1 hm with h | h
  ·exact .inl ⟨m,h,e⟩
  ·obtain rfl:=List.mem_singleton.1 h
   exact .inr e
 ·rintro (⟨m,hm,e⟩ | e)
  ·exact ⟨m,by simp [hm],e⟩
  ·exact ⟨n,by simp,e⟩
theorem Lk.snoc {w w':World} {B b1 b2 g:Nat} {rs:List NR} {r:NR} {G:Nat->Nat} {C C':Int->Nat} (h:Lk w B b1 b2 rs G C fun _=>none) (hk:Kept w w') (hn:WCells w' g (qea r (.pointer none))) (hg:∀ i,i<rs.length->G i ≠ g) (hB:B<=g)
  (h1:∃ D,w'.ownsMap Tryz.prog 3 ptrE b1 (rs.length+1) D/\∀ id,Tells D (ki id) (match fid (nds rs) id with | some i=>some (G i) | none=>if r.nd.id=id then some g else none))
  (h2:∃ D,w'.ownsMap Tryz.prog 3 mapE b2 (rs.length+1) D/\∀ p,(Par (nds rs) p\/r.nd.parent=p->Tells D (ki p) (some (C' p)))/\(¬ (Par (nds rs) p\/r.nd.parent=p)->Tells D (ki p) none))
  (h3:∀ p,Par (nds rs) p\/r.nd.parent=p->B<=C' p/\C' p ≠ b1/\C' p ≠ b2/\∃ D,w'.ownsMap Tryz.prog 9 ptrE (C' p) (rs.length+1) D/\∀ s,Tells D (ks s) (match fnm (nds rs) p s with | some i=>some (G i) | none=>if r.nd.parent=p/\r.nd.name=s then some g else none))
  (h4:∀ p q,(Par (nds rs) p\/r.nd.parent=p)->(Par (nds rs) q\/r.nd.parent=q)->C' p=C' q->p=q):Lk w' B b1 b2 (rs++[r]) (Gn G rs.length g) C' fun _=>none:=by
 have hl:(rs++[r]).length=rs.length+1:=by simp
 refine ⟨?_,?_,fun p hp=>?_,fun p q hp hq e=>?_,fun i hi=>?_,fun i j hi hj e=>?_,h.lo⟩
 ·obtain ⟨D,o,t⟩:=h1
  exact ⟨D,by rw [hl];exact o,fun id=>by rw [fid_map_snoc];exact t id⟩
 ·obtain ⟨D,o,t⟩:=h2
  refine ⟨D,by rw [hl];exact o,fun p=>?_⟩
  rw [qcp]
  exact ⟨fun hp=>(t p).1 (par_snoc.1 hp),fun hp=>(t p).2 fun hp'=>hp (par_snoc.2 hp')⟩
 ·rw [qcp,par_snoc] at hp
  obtain ⟨q1,q2,q3,D,o,t⟩:=h3 p hp
  exact ⟨q1,q2,q3,D,by rw [hl];exact o,fun s=>by rw [fnm_map_snoc];exact t s⟩
 ·rw [qcp,par_snoc] at hp hq
  exact h4 p q hp hq e
 ·rw [hl] at hi
  rcases Nat.lt_or_ge i rs.length with hlt | hge
  ·rw [List.getElem_append_left hlt,qjf hlt]
   exact ⟨hk _ _ (h.cells i hlt).1,(h.cells i hlt).2⟩
  ·obtain rfl:i=rs.length:=by omega
   rw [List.getElem_append_right (Nat.le_refl _),qnl]
   exact ⟨by simpa [ptrV] using hn,hB⟩
 ·rw [hl] at hi hj
  rcases Nat.lt_or_ge i rs.length with hli | hgi <;> rcases Nat.lt_or_ge j rs.length with hlj | hgj
  ·rw [qjf hli,qjf hlj] at e
   exact h.one i j hli hlj e
  ·obtain rfl:j=rs.length:=by omega
   rw [qjf hli,qnl] at e
   exact absurd e (hg i hli)
  ·obtain rfl:i=rs.length:=by omega
   rw [qjf hlj,qnl] at e
   exact absurd e.symm (hg j hlj)
  ·omega
end Go.Proofs.YtoglebfiobofoaaGreatDoor
/- LkB: . -/
namespace Go.Proofs.YtoglebfiobofoaaGreatDoor
set_option maxRecDepth 100000
set_option maxHeartbeats 16000000
open Go.RowKit Go.Maps
attribute [local go_sem ↓] Go.wp_at_zero Go.wp_at_succ
def Sp {α:Type} (kf:α->Lit) (k:TypeId) (E:Value->Option (DataW Unit × List MemPlace)) (w:World) (b n:Nat) (f:α->Option Nat):Prop:=∃ D,w.ownsMap Tryz.prog k E b n D/\∀ x,Tells D (kf x) (f x)
section
variable {α:Type} {kf:α->Lit} {k:TypeId} {E:Value->Option (DataW Unit × List MemPlace)} {w w':World} {b n:Nat} {f f':α->Option Nat}
theorem Sp.below (h:Sp kf k E w b n f) (hb:Below w.heap.size w w'):Sp kf k E w' b n f:=by
 obtain ⟨D,o,t⟩:=h
 exact ⟨D,own_below o hb,t⟩
theorem Sp.turned {c:Nat} (h:Sp kf k E w b n f) (ht:w.mapTurned w' c) (hne:b ≠ c):Sp kf k E w' b n f:=by
 obtain ⟨D,o,t⟩:=h
 exact ⟨D,own_turned o ht hne,t⟩
theorem Sp.more {m:Nat} (h:Sp kf k E w b n f) (hm:n<=m):Sp kf k E w b m f:=by
 obtain ⟨D,o,t⟩:=h
 exact ⟨D,o.mono hm,t⟩
theorem Sp.eq (h:Sp kf k E w b n f) (e:∀ x,f x=f' x):Sp kf k E w b n f':=by
 obtain ⟨D,o,t⟩:=h
 exact ⟨D,o,fun x=>by rw [<-e x];exact t x⟩
theorem Sp.put {D:DataW Unit} {x:α} {g:Nat} (hi:∀ x y,kf x=kf y->x=y) (ho:w.ownsMap Tryz.prog k E b n D) (ht:∀ x,Tells D (kf x) (f x)) (hk:WideAt.IsKeyLit (kf x)) {m:Nat} (ho':w'.ownsMap Tryz.prog k E b m (D.put (kf x) (.lit (.int .i64 g)))) (h1:f' x=some g) (h2:∀ y,y ≠ x->f' y=f y):Sp kf k E w' b m f':=by
 refine ⟨_,ho',fun y=>?_⟩
 by_cases e:y=x
 ·subst e
  rw [h1]
  exact Tells.put_same ho.isMap hk
 ·rw [h2 y e]
  exact (ht y).put_other fun q=>e (hi _ _ q)
end
abbrev Si:=Sp ki 3 ptrE
abbrev Sm:=Sp ki 3 mapE
abbrev Ss:=Sp ks 9 ptrE
structure Ph (w W:World) (B b1 b2 h:Nat) (r:NR):Prop where
 kp:Kept w W
 bl:Below B w W
 sz:w.heap.size<=W.heap.size
 bx:WCells W h [.map (some b1),.map (some b2)]
 nd:WCells W (h+1) (qaj r)
theorem Ph.turned {w W W':World} {B b1 b2 h c:Nat} {r:NR} (p:Ph w W B b1 b2 h r) (ht:W.mapTurned W' c) (hc:B<=c) (hB:B<=w.heap.size):Ph w W' B b1 b2 h r:=
 ⟨p.kp.trans (Kept.turned ht),p.bl.grown ht.grown (by have:=p.sz;omega) (fun j hj=>by simp at hj;omega),Nat.le_trans p.sz ht.grown.size,qfb p.bx ht,qfb p.nd ht⟩
theorem Ph.below {w W W':World} {B b1 b2 h:Nat} {r:NR} (p:Ph w W B b1 b2 h r) (hb:Below W.heap.size W W') (hB:B<=w.heap.size):Ph w W' B b1 b2 h r:=
 ⟨p.kp.trans (Kept.below hb),p.bl.trans (hb.mono (by have:=p.sz;omega)),Nat.le_trans p.sz hb.size,p.bx.grow hb,p.nd.grow hb⟩
structure Ms (W:World) (B b1 b2 n1 n2 n3:Nat) (f1:Int->Option Nat) (C:Int->Nat) (ps:Int->Prop) (f3:Int->ByteArray->Option Nat):Prop where
 s1:Si W b1 n1 f1
 s2:∃ f2,Sm W b2 n2 f2/\∀ p,(ps p->f2 p=some (C p))/\(¬ ps p->f2 p=none)
 s3:∀ p,ps p->B<=C p/\C p ≠ b1/\C p ≠ b2/\Ss W (C p) n3 (f3 p)
 inj:∀ p q,ps p->ps q->C p=C q->p=q
theorem Ms.below {W W':World} {B b1 b2 n1 n2 n3:Nat} {f1:Int->Option Nat} {C:Int->Nat} {ps:Int->Prop} {f3:Int->ByteArray->Option Nat} (h:Ms W B b1 b2 n1 n2 n3 f1 C ps f3) (hb:Below W.heap.size W W'):Ms W' B b1 b2 n1 n2 n3 f1 C ps f3:=by
 obtain ⟨s1,⟨f2,s2,e2⟩,s3,inj⟩:=h
 exact ⟨s1.below hb,⟨f2,s2.below hb,e2⟩,fun p hp=>⟨(s3 p hp).1,(s3 p hp).2.1,(s3 p hp).2.2.1,(s3 p hp).2.2.2.below hb⟩,inj⟩
theorem Lk.ms {w:World} {B b1 b2:Nat} {rs:List NR} {G:Nat->Nat} {C:Int->Nat} {A:Nat->Option Nat} (h:Lk w B b1 b2 rs G C A):Ms w B b1 b2 rs.length rs.length rs.length (fun id=>(fid (nds rs) id).map G) C (Par (nds rs)) (fun p s=>(fnm (nds rs) p s).map G):=by
 obtain ⟨m1,⟨D,o2,t2⟩,m3,inj,cells,one,lo⟩:=h
 classical
 refine ⟨m1,⟨fun p=>if Par (nds rs) p then some (C p) else none,⟨D,o2,fun p=>?_⟩,fun p=>⟨fun hp=>if_pos hp,fun hp=>if_neg hp⟩⟩,fun p hp=>m3 p hp,inj⟩
 by_cases hp:Par (nds rs) p
 ·dsimp only;rw [if_pos hp];exact (t2 p).1 hp
 ·dsimp only;rw [if_neg hp];exact (t2 p).2 hp
theorem qsv {x:Int} (h:(Lit.int .i64 x).wf=true):WideAt.IsKeyLit (ki x):=keyI.key (qcc h)
theorem str_key {s:ByteArray} (h:s.size<=maxLen):WideAt.IsKeyLit (ks s):=keyS.key (qje h)
theorem add_any {w:World} {B b1 b2 g:Nat} {rs:List NR} {r:NR} {G:Nat->Nat} {C:Int->Nat} (h:Lk w B b1 b2 rs G C fun _=>none) (hn:WCells w g (qea r (.pointer none))) (hg:∀ i,i<rs.length->G i ≠ g) (hB:B<=g) (hBw:B<=w.heap.size) (hl:rs.length<=1048576) (f1:(Lit.int .i64 r.nd.id).wf=true) (f2:(Lit.int .i64 r.nd.parent).wf=true) (f3:r.nd.name.size<=maxLen) :
  Calls Tryz.prog 175 #[.agg #[.map (some b1),.map (some b2)],.pointer (some ⟨g,0,none⟩)] w fun e w'=>e = .returned (.tuple #[])/\(∃ C',Lk w' B b1 b2 (rs++[r]) (Gn G rs.length g) C' fun _=>none)/\Kept w w'/\Below B w w':=by
 have HL:=Sh.mk h
 have HN:=Sh.mk hn
 have HG:=Sh.mk hg
 have c0:=(hn.2 0 _ rfl).1
 have c1:=(hn.2 1 _ rfl).1
 have c2:=(hn.2 2 _ rfl).1
 have c3:=(hn.2 3 _ rfl).1
 have c4:=(hn.2 4 _ rfl).1
 have c5:=(hn.2 5 _ rfl).1
 have c6:=(hn.2 6 _ rfl).1
 have c7:=(hn.2 7 _ rfl).1
 have c8:=(hn.2 8 _ rfl).1
 have lg:=hn.1
 clear h hn hg
 go_enter Tryz.func175,Tryz.ntmps175
 go_upto_region 2 with fail
 refine qaa (fun W=>Ph w W B b1 b2 w.heap.size r/\Ms W B b1 b2 rs.length rs.length rs.length (fun id=>(fid (nds rs) id).map G) C (Par (nds rs)) (fun p s=>(fnm (nds rs) p s).map G)) ?_ ?_
 ·have hb:Below w.heap.size w ((w.alloc (.cells #[.map (some b1),.map (some b2)] 213)).alloc (.cells #[.int .i64 r.nd.id,.int .i64 r.nd.parent,.string r.nd.name,.bool r.nd.dir,.int .i64 r.nd.schema,.int .i64 r.nd.quota,.int .i64 r.nd.len,.slice r.loc r.nd.pieces.length r.cap,.int .i64 r.nd.writer] 87)):=((Below.refl _ _).alloc (Nat.le_refl _) _).alloc (by simp) _
  refine ⟨⟨Kept.below hb,hb.mono hBw,hb.size,(qad w #[.map (some b1),.map (some b2)] 213).alloc _,?_⟩,HL.1.ms.below hb⟩
  have:=qad (w.alloc (.cells #[.map (some b1),.map (some b2)] 213)) #[.int .i64 r.nd.id,.int .i64 r.nd.parent,.string r.nd.name,.bool r.nd.dir,.int .i64 r.nd.schema,.int .i64 r.nd.quota,.int .i64 r.nd.len,.slice r.loc r.nd.pieces.length r.cap,.int .i64 r.nd.writer] 87
  simpa [qaj] using this
 intro W hW
 obtain ⟨hP,hM⟩:=hW
 have HP:=Sh.mk hP
 have HM:=Sh.mk hM
 have HLO:=Sh.mk HL.1.lo
 clear c0 c1 c2 c3 c4 c5 c6 c7 c8 hP hM
 have b0:=(HP.1.bx.2 0 _ rfl).1
 have n0:=(HP.1.nd.2 0 _ rfl).1
 obtain ⟨D1,o1,t1⟩:=HM.1.s1
 have hk1:=qcx keyI Tryz.underlying210 qgn o1 (qcc f1) (t1 r.nd.id) 0
 rw [World.drewN_zero] at hk1
 dsimp only at hk1
 have T1:=Sh.mk t1
 clear t1
 obtain ⟨u1,hu1⟩:∃ u1,u1=(fid (nds rs) r.nd.id).map G:=⟨_,rfl⟩
 rw [<-hu1] at hk1
 have U1:=Sh.mk hu1
 clear hu1
 have e1:=eqg_ptr
 have e2:=eq_ptr
 go_upto_if 14 with fail
 go_cut [4] from 5 to 47 (fun u wx=>u = .pointer (some ⟨w.heap.size+1,0,none⟩)/\Sh (Ph w wx B b1 b2 w.heap.size r/\Ms wx B b1 b2 (rs.length+1) rs.length rs.length (fun id=>match fid (nds rs) id with | some i=>some (G i) | none=>if r.nd.id=id then some g else none) C (Par (nds rs)) (fun p s=>(fnm (nds rs) p s).map G)))
 case first =>
  cases u1 with
  | some x =>
   clear o1 T1 D1
   go_wp2_with fail
   go_meet
   case rel =>
    refine ⟨rfl,⟨HP.1,?_⟩⟩
    obtain ⟨s1,s2,s3,inj⟩:=HM.1
    refine ⟨(s1.more (Nat.le_succ _)).eq fun id=>?_,s2,s3,inj⟩
    cases hf:fid (nds rs) id with
    | some i=>rfl
    | none =>
     by_cases e:r.nd.id=id
     ·have:=U1.1
      rw [e,hf] at this
      cases this
     ·simp [e]
  | none =>
   have hmx:rs.length<maxLen:=by unfold maxLen;omega
   go_wp2_with (at_mapUpdate;refine wpList_mapUpdate_in _ rfl _ _ _ 210 rfl 3 238 keyI Tryz.underlying210 ptrE b1 rs.length D1 rfl o1 hmx _ _ _ rfl rfl (qcc f1) (.lit (.int .i64 g)) [] rfl ?_;intro w2 hown2 hturn2)
   go_meet
   case rel =>
    refine ⟨rfl,⟨HP.1.turned hturn2 HLO.1.1 hBw,?_⟩⟩
    obtain ⟨s1,⟨f2',s2,e2⟩,s3,inj⟩:=HM.1
    refine ⟨Sp.put (fun x y=>qsd) o1 T1.1 (qsv f1) hown2 ?_ (fun y hy=>?_),⟨f2',s2.turned hturn2 (fun e=>HLO.1.2.2 e.symm),e2⟩,fun p hp=>⟨(s3 p hp).1,(s3 p hp).2.1,(s3 p hp).2.2.1,(s3 p hp).2.2.2.turned hturn2 (s3 p hp).2.1⟩,inj⟩
    ·have:=U1.1
     cases hf:fid (nds rs) r.nd.id with
     | some i=>rw [hf] at this;cases this
     | none=>simp
    ·cases hf:fid (nds rs) y with
     | some i=>rfl
     | none=>simp;exact fun e=>hy e.symm
 case rest =>
  obtain ⟨rfl,hc⟩:=hcut
  clear b0 n0 hk1 o1 T1 HM HP U1
  have HP:=Sh.mk hc.1.1
  have HM:=Sh.mk hc.1.2
  clear hc
  have b0:=(HP.1.bx.2 1 _ rfl).1
  have n0:=(HP.1.nd.2 1 _ rfl).1
  obtain ⟨F2,⟨D2,o2,t2⟩,E2⟩:=HM.1.s2
  have hk2:=qgq keyI Tryz.underlying211 qnk o2 (qcc f2) (t2 r.nd.parent) 0
  rw [World.drewN_zero] at hk2
  have T2:=Sh.mk t2
  have HE2:=Sh.mk E2
  clear t2 E2
  obtain ⟨u2,hu2⟩:∃ u2,u2=F2 r.nd.parent:=⟨_,rfl⟩
  rw [<-hu2] at hk2
  have U2:=Sh.mk hu2
  clear hu2
  have e3:=eqg_map
  have e4:=eq_map
  go_upto_if 25 with fail
  go_cut [4] from 5 to 47 (fun u wx=>u = .pointer (some ⟨w.heap.size+1,0,none⟩)/\Sh (Ph w wx B b1 b2 w.heap.size r/\∃ C',Ms wx B b1 b2 (rs.length+1) (rs.length+1) rs.length (fun id=>match fid (nds rs) id with | some i=>some (G i) | none=>if r.nd.id=id then some g else none) C' (fun p=>Par (nds rs) p\/r.nd.parent=p) (fun p s=>(fnm (nds rs) p s).map G)))
  case first =>
   cases u2 with
   | some x =>
    have hpar:Par (nds rs) r.nd.parent:=Classical.byContradiction fun hp=>by
     have:=(HE2.1 r.nd.parent).2 hp
     rw [<-U2.1] at this
     cases this
    have HPA:=Sh.mk hpar
    clear o2 T2 D2 hpar
    go_wp2_with fail
    go_meet
    case rel =>
     refine ⟨rfl,⟨HP.1,C,?_⟩⟩
     obtain ⟨s1,⟨f2',s2,e2⟩,s3,inj⟩:=HM.1
     have hps:∀ p,Par (nds rs) p\/r.nd.parent=p->Par (nds rs) p:=fun p hp=>hp.elim (fun h=>h) (fun e=>e ▸ HPA.1)
     exact ⟨s1,⟨f2',s2.more (Nat.le_succ _),fun p=>⟨fun hp=>(e2 p).1 (hps p hp),fun hp=>(e2 p).2 fun hp'=>hp (.inl hp')⟩⟩,fun p hp=>s3 p (hps p hp),fun p q hp hq=>inj p q (hps p hp) (hps q hq)⟩
   | none =>
    have hpar:¬ Par (nds rs) r.nd.parent:=fun hp=>by
     have:=(HE2.1 r.nd.parent).1 hp
     rw [<-U2.1] at this
     cases this
    have HPA:=Sh.mk hpar
    have hmx:rs.length<maxLen:=by unfold maxLen;omega
    have hmm:=@run_makeMap Tryz.prog
    have o2':=o2.alloc (.map #[] 0)
    have hlt:b2<wc.heap.size:=o2.lt
    clear hpar
    go_wp2_with (at_mapUpdate;refine wpList_mapUpdate_in _ rfl _ _ _ 211 rfl 3 239 keyI Tryz.underlying211 mapE b2 rs.length D2 rfl o2' hmx _ _ _ rfl rfl (qcc f2) (.lit (.int .i64 wc.heap.size)) [] rfl ?_;intro w2 hown2 hturn2)
    go_meet
    case rel =>
     have hb:Below wc.heap.size wc (wc.alloc (.map #[] 0)):=(Below.refl _ _).alloc (Nat.le_refl _) _
     have hne:wc.heap.size ≠ b2:=by omega
     have hsw:=HP.1.sz
     obtain ⟨s1,⟨f2',s2,e2⟩,s3,inj⟩:=HM.1
     obtain ⟨p1,p2,p3⟩:=HLO.1
     have hl1:b1<wc.heap.size:=by obtain ⟨_,o,_⟩:=s1;exact o.lt
     classical
     have hother:∀ p,Par (nds rs) p\/r.nd.parent=p->p ≠ r.nd.parent->Par (nds rs) p:=fun p hp hne=>hp.elim (fun h=>h) (fun e=>absurd e.symm hne)
     have hlC:∀ p,Par (nds rs) p->C p<wc.heap.size:=fun p hp=>by obtain ⟨_,_,_,_,o,_⟩:=s3 p hp;exact o.lt
     refine ⟨rfl,⟨(HP.1.below hb hBw).turned hturn2 p2 hBw,fun p=>if p=r.nd.parent then wc.heap.size else C p,?_⟩⟩
     refine ⟨(s1.below hb).turned hturn2 p3,⟨fun p=>if p=r.nd.parent then some wc.heap.size else F2 p,Sp.put (fun x y=>qsd) o2 T2.1 (qsv f2) hown2 (by simp) (fun y hy=>by simp [hy]),fun p=>⟨fun hp=>?_,fun hp=>?_⟩⟩,fun p hp=>?_,fun p q hp hq e=>?_⟩
     ·by_cases e:p=r.nd.parent
      ·simp [e]
      ·simp only [if_neg e]
       exact (HE2.1 p).1 (hother p hp e)
     ·have e:p ≠ r.nd.parent:=fun e=>hp (.inr e.symm)
      simp only [if_neg e]
      exact (HE2.1 p).2 fun h=>hp (.inl h)
     ·by_cases e:p=r.nd.parent
      ·subst e
       simp only [if_pos]
       refine ⟨by omega,by omega,hne,?_⟩
       refine (Sp.more (Sp.turned (c:=b2) (w:=wc.alloc (.map #[] 0)) ⟨.map [],World.ownsMap_made wc Tryz.prog 9 ptrE,fun s=>?_⟩ hturn2 hne) (Nat.zero_le _))
       cases hf:fnm (nds rs) r.nd.parent s with
       | some i=>exact absurd (qru hf) HPA.1
       | none=>dsimp only;rw [hf];rfl
      ·simp only [if_neg e]
       obtain ⟨q1,q2,q3,q4⟩:=s3 p (hother p hp e)
       exact ⟨q1,q2,q3,(q4.below hb).turned hturn2 q3⟩
     ·by_cases e1:p=r.nd.parent <;> by_cases e2':q=r.nd.parent
      ·rw [e1,e2']
      ·simp only [if_pos e1,if_neg e2'] at e
       have:=hlC q (hother q hq e2')
       omega
      ·simp only [if_neg e1,if_pos e2'] at e
       have:=hlC p (hother p hp e1)
       omega
      ·simp only [if_neg e1,if_neg e2'] at e
       exact inj p q (hother p hp e1) (hother q hq e2') e
  case rest =>
   obtain ⟨rfl,hc⟩:=hcut
   clear b0 n0 hk2 o2 T2 HE2 HM HP U2
   have HP:=Sh.mk hc.1.1
   obtain ⟨C',hM⟩:=hc.1.2
   have HM:=Sh.mk hM
   clear hc hM
   have b0:=(HP.1.bx.2 1 _ rfl).1
   have n0:=(HP.1.nd.2 1 _ rfl).1
   have n1:=(HP.1.nd.2 2 _ rfl).1
   obtain ⟨F2,⟨D2,o2,t2⟩,E2⟩:=HM.1.s2
   have hk2:=qgq keyI Tryz.underlying211 qnk o2 (qcc f2) (t2 r.nd.parent) 0
   rw [World.drewN_zero,(E2 r.nd.parent).1 (.inr rfl)] at hk2
   unfold mapV at hk2
   obtain ⟨q1,q2,q3,D3,o3,t3⟩:=HM.1.s3 r.nd.parent (.inr rfl)
   have hk3:=qcx keyS Tryz.underlying239 qgn o3 (qje f3) (t3 r.nd.name) 0
   rw [World.drewN_zero] at hk3
   dsimp only at hk2 hk3
   have T3:=Sh.mk t3
   have HC:=Sh.mk (And.intro q1 (And.intro q2 q3))
   clear t2 t3 E2 o2 q1 q2 q3
   obtain ⟨c,hce⟩:∃ c,c=C' r.nd.parent:=⟨_,rfl⟩
   rw [<-hce] at hk2 hk3 o3
   have HCE:=Sh.mk hce
   obtain ⟨u3,hu3⟩:∃ u3,u3=(fnm (nds rs) r.nd.parent r.nd.name).map G:=⟨_,rfl⟩
   rw [<-hu3] at hk3
   have U3:=Sh.mk hu3
   clear hu3 hce
   have HFIN:Sh (∀ w',Kept w w'->Below B w w'->Ms w' B b1 b2 (rs.length+1) (rs.length+1) (rs.length+1) (fun id=>match fid (nds rs) id with | some i=>some (G i) | none=>if r.nd.id=id then some g else none) C' (fun p=>Par (nds rs) p\/r.nd.parent=p) (fun p s=>match fnm (nds rs) p s with | some i=>some (G i) | none=>if r.nd.parent=p/\r.nd.name=s then some g else none)->∃ C',Lk w' B b1 b2 (rs++[r]) (Gn G rs.length g) C' fun _=>none):=⟨fun w' hk hb hm=>by
    obtain ⟨s1,⟨f2',⟨D,o,t⟩,e2⟩,s3,inj⟩:=hm
    exact ⟨C',HL.1.snoc hk (hk _ _ HN.1) HG.1 hB s1 ⟨D,o,fun p=>⟨fun hp=>by rw [<-(e2 p).1 hp];exact t p,fun hp=>by rw [<-(e2 p).2 hp];exact t p⟩⟩ s3 inj⟩⟩
   cases u3 with
   | some x =>
    clear o3 T3 D3
    go_wp2_with fail
    refine bodyPost_end (v:=.tuple #[]) (by simp [results,Tryz.results175,go_sem]) rfl ?_
    refine ⟨rfl,HFIN.1 _ HP.1.kp HP.1.bl ?_,HP.1.kp,HP.1.bl⟩
    obtain ⟨s1,s2,s3,inj⟩:=HM.1
    refine ⟨s1,s2,fun p hp=>⟨(s3 p hp).1,(s3 p hp).2.1,(s3 p hp).2.2.1,(Sp.more (s3 p hp).2.2.2 (Nat.le_succ _)).eq fun s=>?_⟩,inj⟩
    cases hf:fnm (nds rs) p s with
    | some i=>rfl
    | none =>
     by_cases e:r.nd.parent=p/\r.nd.name=s
     ·have:=U3.1
      rw [e.1,e.2,hf] at this
      cases this
     ·simp [e]
   | none =>
    have hmx:rs.length<maxLen:=by unfold maxLen;omega
    go_wp2_with (at_mapUpdate;refine wpList_mapUpdate_in _ rfl _ _ _ 239 rfl 9 238 keyS Tryz.underlying239 ptrE c rs.length D3 rfl o3 hmx _ _ _ rfl rfl (qje f3) (.lit (.int .i64 g)) [] rfl ?_;intro w2 hown2 hturn2)
    refine bodyPost_end (v:=.tuple #[]) (by simp [results,Tryz.results175,go_sem]) rfl ?_
    have hcB:B<=c:=by rw [HCE.1];exact HC.1.1
    have hP:=HP.1.turned hturn2 hcB hBw
    refine ⟨rfl,HFIN.1 _ hP.kp hP.bl ?_,hP.kp,hP.bl⟩
    obtain ⟨s1,⟨f2',s2,e2⟩,s3,inj⟩:=HM.1
    refine ⟨s1.turned hturn2 (by rw [HCE.1];exact fun e=>HC.1.2.1 e.symm),⟨f2',s2.turned hturn2 (by rw [HCE.1];exact fun e=>HC.1.2.2 e.symm),e2⟩,fun p hp=>?_,inj⟩
    obtain ⟨q1,q2,q3,q4⟩:=s3 p hp
    refine ⟨q1,q2,q3,?_⟩
    by_cases e:p=r.nd.parent
    ·subst e
     rw [<-HCE.1]
     refine Sp.put (fun x y=>ks_inj) o3 T3.1 (str_key f3) hown2 ?_ (fun y hy=>?_)
     ·have:=U3.1
      cases hf:fnm (nds rs) r.nd.parent r.nd.name with
      | some i=>rw [hf] at this;cases this
      | none=>simp
     ·cases hf:fnm (nds rs) r.nd.parent y with
      | some i=>rfl
      | none=>simp;exact fun e=>hy e.symm
    ·refine ((q4.turned hturn2 fun e'=>e ?_).more (Nat.le_succ _)).eq fun s=>?_
     ·exact inj p r.nd.parent hp (.inr rfl) (e'.trans HCE.1)
     ·cases hf:fnm (nds rs) p s with
      | some i=>rfl
      | none=>simp;exact fun e'=>absurd e'.symm e
theorem own_ne {w:World} {P:Program} {k:TypeId} {R:Value->Option (DataW Unit × List MemPlace)} {b n g:Nat} {D:DataW Unit} {L:List Value} (h:w.ownsMap P k R b n D) (hc:WCells w g L) (hL:0<L.length):b ≠ g:=by
 rintro rfl
 obtain ⟨es,clock,hb,_⟩:=h
 have:=(hc.2 0 _ (List.getElem?_eq_getElem hL)).1
 simp [World.cell?,hb] at this
theorem qjg {w w':World} {g r:Nat} {L:List Value} (h:WCells w g L) (hg:w.grownBy w' (some r)) (hr:g ≠ r):WCells w' g L:=by
 have hk:=hg.block g h.1 (by simpa using hr)
 refine ⟨Nat.lt_of_lt_of_le h.1 hg.size,fun i v hv=>?_⟩
 have h1:=h.2 i v hv
 simp only [World.cell?,World.frozen?,hk] at h1 ⊢
 exact h1
theorem Lk.grown {w w':World} {B b1 b2 r:Nat} {rs:List NR} {G:Nat->Nat} {C:Int->Nat} {A:Nat->Option Nat} (h:Lk w B b1 b2 rs G C A) (hg:w.grownBy w' (some r)) (h1:b1 ≠ r) (h2:b2 ≠ r) (h3:∀ p,Par (nds rs) p->C p ≠ r) (h4:∀ i,i<rs.length->G i ≠ r):Lk w' B b1 b2 rs G C A:=by
 obtain ⟨⟨D1,o1,t1⟩,⟨D2,o2,t2⟩,m3,inj,cells,one,lo⟩:=h
 refine ⟨⟨D1,o1.kept hg (by simpa using h1),t1⟩,⟨D2,o2.kept hg (by simpa using h2),t2⟩,fun p hp=>?_,inj,fun i hi=>⟨qjg (cells i hi).1 hg (h4 i hi),(cells i hi).2⟩,one,lo⟩
 obtain ⟨q1,q2,q3,D,o3,t3⟩:=m3 p hp
 exact ⟨q1,q2,q3,D,o3.kept hg (by simpa using h3 p hp),t3⟩
theorem ptrV_is (o:Option Nat):∃ a,ptrV o = .pointer a:=by
 cases o with
 | none=>exact ⟨none,rfl⟩
 | some g=>exact ⟨some ⟨g,0,none⟩,rfl⟩
theorem qgo (W:World) (p:Addr) (v:Value):W.grownBy (W.setCell p v) (some p.block):=
 ⟨rfl,rfl,rfl,by simp [World.setCell],fun k _ hk=>Below.heap_setCell _ _ _ k (fun e=>hk (by rw [e]))⟩
theorem lcells_set (r:NR) (p q:Value):(qea r p).set 9 q=qea r q:=rfl
theorem Lk.tell {w:World} {B b1 b2:Nat} {rs:List NR} {G:Nat->Nat} {C:Int->Nat} {A A':Nat->Option Nat} {i:Nat} (h:Lk w B b1 b2 rs G C A) (hi:i<rs.length) (hA:∀ j,j<rs.length->j ≠ i->A' j=A j):Lk (w.setCell ⟨G i,9,none⟩ (ptrV ((A' i).map G))) B b1 b2 rs G C A':=by
 obtain ⟨⟨D1,o1,t1⟩,⟨D2,o2,t2⟩,m3,inj,cells,one,lo⟩:=h
 have hc:=(cells i hi).1
 refine ⟨⟨D1,o1.setCell (a:=⟨G i,9,none⟩) (own_ne o1 hc (by simp [qea])) _,t1⟩,⟨D2,o2.setCell (a:=⟨G i,9,none⟩) (own_ne o2 hc (by simp [qea])) _,t2⟩,fun p hp=>?_,inj,fun j hj=>?_,one,lo⟩
 ·obtain ⟨q1,q2,q3,D,o3,t3⟩:=m3 p hp
  exact ⟨q1,q2,q3,D,o3.setCell (a:=⟨G i,9,none⟩) (own_ne o3 hc (by simp [qea])) _,t3⟩
 ·by_cases e:j=i
  ·subst e
   have:=hc.set 9 (ptrV ((A' j).map G)) (by simp [qea])
   rw [lcells_set] at this
   exact ⟨this,(cells j hj).2⟩
  ·rw [hA j hj e]
   exact ⟨(cells j hj).1.other _ _ (fun q=>e (one j i hj hi q)),(cells j hj).2⟩
theorem Lk.same {w:World} {B b1 b2:Nat} {rs:List NR} {G:Nat->Nat} {C:Int->Nat} {A A':Nat->Option Nat} (h:Lk w B b1 b2 rs G C A) (hA:∀ j,j<rs.length->A' j=A j):Lk w B b1 b2 rs G C A':=by
 obtain ⟨m1,m2,m3,inj,cells,one,lo⟩:=h
 exact ⟨m1,m2,m3,inj,fun j hj=>by rw [hA j hj];exact cells j hj,one,lo⟩
theorem Lk.side {w:World} {B b1 b2:Nat} {rs:List NR} {G:Nat->Nat} {C:Int->Nat} {A:Nat->Option Nat} (h:Lk w B b1 b2 rs G C A) (p:Addr) (v:Value) {L:List Value} (hp:WCells w p.block L) (hL:0<L.length) (hne:∀ i,i<rs.length->G i ≠ p.block):Lk (w.setCell p v) B b1 b2 rs G C A:=by
 obtain ⟨⟨D1,o1,t1⟩,⟨D2,o2,t2⟩,m3,inj,cells,one,lo⟩:=h
 refine ⟨⟨D1,o1.setCell (own_ne o1 hp hL) _,t1⟩,⟨D2,o2.setCell (own_ne o2 hp hL) _,t2⟩,fun q hq=>?_,inj,fun j hj=>⟨(cells j hj).1.other _ _ (hne j hj),(cells j hj).2⟩,one,lo⟩
 obtain ⟨q1,q2,q3,D,o3,t3⟩:=m3 q hq
 exact ⟨q1,q2,q3,D,o3.setCell (own_ne o3 hp hL) _,t3⟩
def Ab (ns:List NM) (left:Lit->Bool) (i:Nat):Option Nat:=if fid ns (ns.getD i default).id=some i/\left (ki (ns.getD i default).id)=false then fid ns (ns.getD i default).parent else none
theorem qrv (a b:Int):(ki a).sameKey (ki b)=decide (a=b):=by
 by_cases e:a=b
 ·subst e;simp [Lit.sameKey]
 ·rw [Maps.sameKey_ne (fun q=>e (qsd q))];simp [e]
theorem ab_step {ns:List NM} {left:Lit->Bool} {x:Int} {i:Nat} (hi:fid ns x=some i):(∀ j,j<ns.length->j ≠ i->Ab ns (fun z=>left z && !z.sameKey (ki x)) j=Ab ns left j)/\Ab ns (fun z=>left z && !z.sameKey (ki x)) i=fid ns (ns.getD i default).parent:=by
 obtain ⟨hil,ei⟩:=qbw hi
 constructor
 ·intro j hj hne
  unfold Ab
  by_cases hf:fid ns (ns.getD j default).id=some j
  ·have:¬ (ns.getD j default).id=x:=fun e=>by
    rw [e,hi] at hf
    cases hf
    exact hne rfl
   simp only [qrv,this,decide_false,Bool.not_false,Bool.and_true]
  ·simp only [hf,false_and,if_false]
 ·unfold Ab
  rw [getD_in hil,ei,if_pos ⟨hi,by simp [qrv]⟩]
structure Lw (w W:World) (rs:List NR) (G:Nat->Nat) (C:Int->Nat) (A:Nat->Option Nat):Prop where
 lk:Lk W w.heap.size (w.heap.size+1) (w.heap.size+1+1) rs G C A
 bx:WCells W w.heap.size [.map none,.map none]
 vr:WCells W (w.heap.size+1+1+1) [.map (some (w.heap.size+1)),.map (some (w.heap.size+1+1))]
 bl:Below w.heap.size w W
theorem qcw {w:World} {a:Option Addr} {rs:List NR} {cap lo hi:Nat} (hm:TR w a rs lo hi) (hl:rs.length<=1048576) (hI:NInt (nds rs)) (hS:∀ n ∈ nds rs,n.name.size<=maxLen) :
  Calls Tryz.prog 153 #[.slice a rs.length cap] w fun e w'=>∃ b1 b2 G C,e = .returned (.agg #[.map (some b1),.map (some b2)])/\Lk w' w.heap.size b1 b2 rs G C (Ab (nds rs) fun _=>false)/\Below w.heap.size w w':=by
 have HM:=Sh.mk hm
 have HI:=Sh.mk hI
 have HS:=Sh.mk hS
 have hmm:=@run_makeMap Tryz.prog
 clear hm hI hS
 go_enter Tryz.func153,Tryz.ntmps153
 go_upto_region 2 with fail
 refine qaa (fun W=>Lw w W [] (fun _=>0) (fun _=>0) fun _=>none) ?_ ?_
 ·have m1:=World.ownsMap_made (w.alloc (.cells #[.map none,.map none] 213)) Tryz.prog 3 ptrE
  have m2:=World.ownsMap_made ((w.alloc (.cells #[.map none,.map none] 213)).alloc (.map #[] 0)) Tryz.prog 3 mapE
  have z1:∀ o:Obj,(w.alloc o).heap.size=w.heap.size+1:=fun o=>by simp
  have z2:∀ o o':Obj,((w.alloc o).alloc o').heap.size=w.heap.size+1+1:=fun o o'=>by simp
  rw [z1] at m1
  rw [z2] at m2
  refine ⟨Lk.start ((m1.alloc _).alloc _) (m2.alloc _) ⟨by omega,by omega,by omega⟩,(((qad w #[.map none,.map none] 213).alloc _).alloc _).alloc _,?_,((((Below.refl _ _).alloc (Nat.le_refl _) _).alloc (by simp) _).alloc (by simp;omega) _).alloc (by simp;omega) _⟩
  have:=qad (((w.alloc (.cells #[.map none,.map none] 213)).alloc (.map #[] 0)).alloc (.map #[] 0)) #[.map (some (w.heap.size+1)),.map (some (w.heap.size+1+1))] 213
  simpa using this
 intro W hW
 have HW:=Sh.mk hW
 clear hW
 go_wp2_with fail
 go_loopw [13] (fun i wr=>∃ (k:Nat) (G:Nat->Nat) (C:Int->Nat),i = .int .i64 k/\k<=rs.length/\Sh (Lw w wr (rs.take k) G C fun _=>none)) (fun i _=>rs.length - (intOf i).toNat)
 case atStart=>exact ⟨0,_,_,rfl,Nat.zero_le _,by simpa using HW⟩
 case round =>
  clear HW
  obtain ⟨k,G,C,rfl,hk,hW⟩:=hrel
  have v0:=(hW.1.vr.2 0 _ rfl).1
  have v1:=(hW.1.vr.2 1 _ rfl).1
  have lv:=hW.1.vr.1
  by_cases hlt:k<rs.length
  ·obtain ⟨b,off,rfl,lb,hc⟩:=TR.nat HM.1 (by omega)
   have hn:=(hc k hlt).below hW.1.bl lb
   obtain ⟨r,hr⟩:∃ r,r=rs[k]:=⟨_,rfl⟩
   rw [<-hr] at hn
   have hstep:rs.take (k+1)=rs.take k++[r]:=by rw [hr];exact List.take_succ_eq_append_getElem hlt
   have hmem:r.nd ∈ nds rs:=by rw [hr];exact List.mem_map.2 ⟨_,List.getElem_mem hlt,rfl⟩
   have f1:=(HI.1 _ hmem).1
   have f2:=(HI.1 _ hmem).2
   have f3:=HS.1 _ hmem
   have hlk:(rs.take k).length=k:=by simp;omega
   have HCALL:Sh (∀ W,W=(wr.alloc (.cells #[.int .i64 r.nd.id,.int .i64 r.nd.parent,.string r.nd.name,.bool r.nd.dir,.int .i64 r.nd.schema,.int .i64 r.nd.quota,.int .i64 r.nd.len,.slice r.loc r.nd.pieces.length r.cap,.int .i64 r.nd.writer] 87)).alloc (.cells #[.int .i64 r.nd.id,.int .i64 r.nd.parent,.string r.nd.name,.bool r.nd.dir,.int .i64 r.nd.schema,.int .i64 r.nd.quota,.int .i64 r.nd.len,.slice r.loc r.nd.pieces.length r.cap,.int .i64 r.nd.writer,.pointer none] 241) ->
     Calls Tryz.prog 175 #[.agg #[.map (some (w.heap.size+1)),.map (some (w.heap.size+1+1))],.pointer (some ⟨wr.heap.size+1,0,none⟩)] W fun e w'=>e = .returned (.tuple #[])/\∃ G' C',Sh (Lw w w' (rs.take (k+1)) G' C' fun _=>none)):=⟨fun W hWe=>by
    have hb1:Below wr.heap.size wr W:=by rw [hWe];exact ((Below.refl _ _).alloc (Nat.le_refl _) _).alloc (by simp) _
    have hnew:WCells W (wr.heap.size+1) (qea r (.pointer none)):=by
     have:=qad (wr.alloc (.cells #[.int .i64 r.nd.id,.int .i64 r.nd.parent,.string r.nd.name,.bool r.nd.dir,.int .i64 r.nd.schema,.int .i64 r.nd.quota,.int .i64 r.nd.len,.slice r.loc r.nd.pieces.length r.cap,.int .i64 r.nd.writer] 87)) #[.int .i64 r.nd.id,.int .i64 r.nd.parent,.string r.nd.name,.bool r.nd.dir,.int .i64 r.nd.schema,.int .i64 r.nd.quota,.int .i64 r.nd.len,.slice r.loc r.nd.pieces.length r.cap,.int .i64 r.nd.writer,.pointer none] 241
     rw [<-hWe] at this
     simpa [qea] using this
    have hbs:=hW.1.bl.size
    refine (add_any (hW.1.lk.below hb1) hnew (fun i hi=>by have:=hW.1.lk.lt.2.2.1 i hi;omega) (by omega) (by have:=hb1.size;omega) (by rw [hlk];omega) f1 f2 f3).mono ?_
    rintro e w' ⟨rfl,⟨C',hL⟩,hK,hB⟩
    exact ⟨rfl,_,C',⟨by rw [hstep];exact hL,hK _ _ (hW.1.bx.grow hb1),hK _ _ (hW.1.vr.grow hb1),hW.1.bl.trans ((hb1.mono hbs).trans hB)⟩⟩⟩
   obtain ⟨c0,c1,c2,c3,c4,c5,c6,c7,c8⟩:=hn
   have lb':b<wr.heap.size:=Nat.lt_of_lt_of_le lb hW.1.bl.size
   have k0:(0:Int)<=(k:Int):=by omega
   have k1:(k:Int)<(rs.length:Int):=by omega
   clear hc hr hstep hmem f1 f2 f3 hlk hmm
   go_wp2_with fail
   refine (HCALL.1 _ rfl).mono ?_
   rintro e w2 ⟨rfl,G',C',hW'⟩
   go_wp2_with fail
   go_roundw
   case rel=>exact ⟨k+1,G',C',by go_num,by omega,hW'⟩
   case measure=>simp [intOf];omega
  ·have hkn:¬ (k:Int)<(rs.length:Int):=by omega
   obtain rfl:k=rs.length:=by omega
   rw [List.take_length] at hW
   obtain ⟨wo,rfl⟩:∃ wo,wo=wr:=⟨_,rfl⟩
   obtain ⟨D,o1,t1⟩:=hW.1.lk.m1
   have T1:=Sh.mk t1
   obtain ⟨l1,l2,l3,l4⟩:=hW.1.lk.lt
   have L3:=Sh.mk l3
   have L4:=Sh.mk l4
   clear t1 l3 l4 hmm hlt hk
   go_wp2_with (first
    | (at_range;refine wpList_range_own _ rfl _ 210 rfl 3 238 keyI Tryz.underlying210 ptrE (w.heap.size+1) rs.length D rfl o1 ?_;intro w0 hrg0 hg0 hs0))
   have hbr:Below wo.heap.size wo w0:=(Below.refl _ _).grown hg0 (Nat.le_refl _) (fun j hj=>by cases hj)
   have HW0:Sh (Lw w w0 rs G C fun _=>none):=⟨hW.1.lk.below hbr,hW.1.bx.grow hbr,hW.1.vr.grow hbr,hW.1.bl.trans (hbr.mono hW.1.bl.size)⟩
   have hlv:w.heap.size<wo.heap.size:=by omega
   go_loopw [7] (fun _ wx=>∃ (left:Lit->Bool) (cnt:Nat),wx.ranges Tryz.prog 3 ptrE (w.heap.size+1) wo.heap.size rs.length D left cnt/\Sh (Lw w wx rs G C (Ab (nds rs) left))) (fun _ wx=>wx.rangeLeft (w.heap.size+1) wo.heap.size)
   case atStart =>
    refine ⟨_,_,hrg0,⟨HW0.1.lk.same fun j hj=>?_,HW0.1.bx,HW0.1.vr,HW0.1.bl⟩⟩
    unfold Ab
    by_cases hf:fid (nds rs) ((nds rs).getD j default).id=some j
    ·have:=(T1.1 ((nds rs).getD j default).id).has
     rw [hf] at this
     rw [if_neg (fun hc=>by rw [hc.2] at this;cases this)]
    ·rw [if_neg (fun hc=>hf hc.1)]
   case round =>
    clear hrg0 HW0 hbr hg0 hs0 hW o1
    obtain ⟨left,cnt,hrg,hW⟩:=hrel
    go_wp2_with (first
     | (at_next;refine wpList_next_ranges _ rfl _ rfl 3 keyI ptrE (Value.int .i64) ptrV (fun key kl hk=>by obtain ⟨x,hx,_⟩:=Maps.keyOf_int_inv Tryz.underlying3 hk;exact ⟨x,hx⟩) (fun v y hv=>qjm hv) (w.heap.size+1) wo.heap.size rs.length _ _ _ rfl hrg ?_ ?_))
    ·intro hc0 hl0
     have HA:Ab (nds rs) left=Ab (nds rs) fun _=>false:=by
      have:left=fun _=>false:=funext hl0
      rw [this]
     rw [HA] at hW
     have v0':=(hW.1.vr.2 0 _ rfl).1
     have v1':=(hW.1.vr.2 1 _ rfl).1
     have y0:=hW.1.bx.2 0 _ rfl
     have y1:=hW.1.bx.2 1 _ rfl
     obtain ⟨y0,z0⟩:=y0
     obtain ⟨y1,z1⟩:=y1
     have lw:=hW.1.bx.1
     clear hrg hl0 HA
     go_wp2_with fail
     refine bodyPost_ret (v:=.agg #[.map (some (w.heap.size+1)),.map (some (w.heap.size+1+1))]) (by simp [results,Tryz.results153,go_sem,y0,y1]) rfl ?_
     refine ⟨_,_,G,C,rfl,?_,(hW.1.bl.setCell (Nat.le_refl _) _).setCell (Nat.le_refl _) _⟩
     have hne:∀ i,i<rs.length->G i ≠ w.heap.size:=fun i hi e=>by
      have h2:=((hW.1.lk.cells i hi).1.2 0 _ rfl).1
      rw [e,y0] at h2
      cases h2
     refine (hW.1.lk.side ⟨w.heap.size,0,none⟩ _ hW.1.bx (by simp) hne).side ⟨w.heap.size,1,none⟩ _ (hW.1.bx.set 0 _ (by simp)) (by simp) hne
    ·intro x c kl d ps w1 cnt1 hkey hlk hv hat hrg1 hlt hg1 hs1 hen
     obtain ⟨x',ex,rfl,hwx⟩:=Maps.keyOf_int_inv Tryz.underlying3 hkey
     cases ex
     have htx:=T1.1 x
     cases hf:fid (nds rs) x with
     | none =>
      rw [hf] at htx
      have q1:=Maps.atKey_of_not_has htx .nil
      have q2:=Maps.atKey_of_not_has htx (.lit (.int .i64 0))
      rw [hat] at q1 q2
      rw [q1] at q2
      cases q2
     | some i =>
      rw [hf] at htx
      have q1:=hat .nil
      rw [htx.at] at q1
      have hce:ptrV c=ptrV (some (G i)):=qnv (by rw [hv,<-q1])
      have HF:=Sh.mk hf
      obtain ⟨hil,hie⟩:=qbw hf
      rw [qaf] at hil
      have hr1:Lw w w1 rs G C (Ab (nds rs) left):=by
       refine ⟨hW.1.lk.grown hg1 (by omega) (by omega) (fun p hp=>by have:=L4.1 p hp;omega) (fun j hj=>by have:=L3.1 j hj;omega),qjg hW.1.bx hg1 (by omega),qjg hW.1.vr hg1 (by omega),hW.1.bl.grown hg1 (by have:=hW.1.bl.size;omega) (fun j hj=>by cases hj;omega)⟩
      have HR:=Sh.mk hr1
      obtain ⟨cc,_⟩:=hr1.lk.cells i hil
      obtain ⟨r,hr⟩:∃ r,r=rs[i]:=⟨_,rfl⟩
      rw [<-hr] at cc
      have c1:=(cc.2 1 _ rfl).1
      obtain ⟨c9,z9⟩:=cc.2 9 _ rfl
      have v0':=(hr1.vr.2 0 _ rfl).1
      have hmem:r.nd ∈ nds rs:=by rw [hr];exact List.mem_map.2 ⟨_,List.getElem_mem hil,rfl⟩
      have f2:=(HI.1 _ hmem).2
      have hlook:=qcx keyI Tryz.underlying210 qgn hrg1.owns (qcc f2) (T1.1 r.nd.parent)
      obtain ⟨pv,hpv⟩:=ptrV_is ((fid (nds rs) r.nd.parent).map G)
      rw [hpv] at hlook
      have HPV:=Sh.mk hpv
      have HRG:=Sh.mk hrg1
      have HR9:=Sh.mk hr
      obtain ⟨g,hg⟩:∃ g,g=G i:=⟨_,rfl⟩
      have HGI:=Sh.mk hg
      rw [<-hg] at c1 c9 z9 hce
      rw [hce] at hen ⊢
      unfold ptrV at hen
      have HRG0:=Sh.mk hrg
      have HLT:=Sh.mk hlt
      clear hlt hr1 hv hat hkey hlk htx q1 hce hf hie cc hmem f2 hpv hrg1 hr hg hW hrg
      unfold ptrV
      go_wp2_with fail
      have hl1:(Instr.lookup 210 (.map (some (w.heap.size+1))) (.int .i64 r.nd.parent) false).run Tryz.prog w1.drew = .ok (.pointer pv) w1.drew:=hlook 1
      clear hlook
      go_region
      all_goals
       go_wp2_with fail
       go_roundw
       case rel =>
        obtain ⟨hA1,hA2⟩:=ab_step (left:=left) HF.1
        have hil':i<(nds rs).length:=by rw [qaf];exact hil
        have hne1:w.heap.size+1 ≠ g:=own_ne HRG.1.owns (by rw [HGI.1];exact (HR.1.lk.cells i hil).1) (by simp [qea])
        have hne2:wo.heap.size ≠ g:=by have:=L3.1 i hil;rw [HGI.1];omega
        have hpe:(fid (nds rs) ((nds rs).getD i default).parent).map G=(fid (nds rs) r.nd.parent).map G:=by
         rw [HR9.1,getD_in hil']
         simp [nds]
        have hset:=HR.1.lk.tell hil (A':=Ab (nds rs) fun z=>left z && !z.sameKey (ki x)) (fun j hj hne=>hA1 j (by rw [qaf];exact hj) hne)
        rw [hA2,hpe,HPV.1,<-HGI.1] at hset
        have hB9:w.heap.size<=g:=by rw [HGI.1];exact (HR.1.lk.cells i hil).2
        have hn0:w.heap.size ≠ g:=fun e=>by
         have h1:=(HR.1.bx.2 0 _ rfl).1
         have h2:=((HR.1.lk.cells i hil).1.2 0 _ rfl).1
         rw [<-HGI.1,<-e,h1] at h2
         cases h2
        have hn3:w.heap.size+1+1+1 ≠ g:=fun e=>by
         have h1:=(HR.1.vr.2 0 _ rfl).1
         have h2:=((HR.1.lk.cells i hil).1.2 0 _ rfl).1
         rw [<-HGI.1,<-e,h1] at h2
         cases h2
        have hgr:w1.grownBy (w1.setCell ⟨g,9,none⟩ (.pointer pv)) (some g):=qgo w1 ⟨g,9,none⟩ _
        have hbd:Below (w1.setCell ⟨g,9,none⟩ (.pointer pv)).heap.size (w1.setCell ⟨g,9,none⟩ (.pointer pv)) (w1.setCell ⟨g,9,none⟩ (.pointer pv)).drew:=Below.drew (Below.refl _ _)
        have hrn:=HRG.1.kept hgr (by simpa using hne1) (by simpa using hne2)
        have hrd:(w1.setCell ⟨g,9,none⟩ (.pointer pv)).drew.ranges Tryz.prog 3 ptrE (w.heap.size+1) wo.heap.size rs.length D (fun z=>left z && !z.sameKey (ki x)) cnt1:=hrn
        exact ⟨_,_,hrd,hset.below hbd,(HR.1.bx.other ⟨g,9,none⟩ _ hn0).grow hbd,(HR.1.vr.other ⟨g,9,none⟩ _ hn3).grow hbd,(HR.1.bl.setCell hB9 _).trans (hbd.mono (by simpa [World.setCell] using HR.1.bl.size))⟩
       case measure =>
        have hne1:w.heap.size+1 ≠ g:=own_ne HRG.1.owns (by rw [HGI.1];exact (HR.1.lk.cells i hil).1) (by simp [qea])
        have hne2:wo.heap.size ≠ g:=by have:=L3.1 i hil;rw [HGI.1];omega
        have hgr:w1.grownBy (w1.setCell ⟨g,9,none⟩ (.pointer pv)) (some g):=qgo w1 ⟨g,9,none⟩ _
        have hrn:=HRG.1.kept hgr (by simpa using hne1) (by simpa using hne2)
        have e1:=hrn.left_eq
        have e2:=HRG0.1.left_eq
        have e3:(w1.setCell ⟨g,9,none⟩ (.pointer pv)).drew.rangeLeft (w.heap.size+1) wo.heap.size=(w1.setCell ⟨g,9,none⟩ (.pointer pv)).rangeLeft (w.heap.size+1) wo.heap.size:=rfl
        rw [e3,e1,e2]
        exact HLT.1
end Go.Proofs.YtoglebfiobofoaaGreatDoor
/- LawTrn: . -/
namespace Go.Proofs.YtoglebfiobofoaaGreatDoor
set_option maxRecDepth 100000
set_option maxHeartbeats 16000000
open Go.RowKit
attribute [local go_sem ↓] Go.wp_at_zero Go.wp_at_succ
variable {nx:Int} {cc g lo m:Nat} {c:Option Addr} {T:TM} {W W':World}
structure BZ (W:World) (g:Nat) (c:Option Addr) (m cc:Nat) (nx:Int) (T:TM) (lo:Nat):Prop where
 kp:WCells W g [.slice c m cc,.int .i64 nx]
 cp:TAns W (.agg #[.slice c m cc,.int .i64 nx]) T lo g
theorem BZ.below (h:BZ W g c m cc nx T lo) (hb:Below W.heap.size W W'):BZ W' g c m cc nx T lo:=⟨h.kp.grow hb,h.cp.below hb⟩
theorem BZ.turned {g m cc lo lo' hi':Nat} (h:BZ W g c m cc nx T lo) (t:Turned W W' lo' hi') (hd:g<lo'):BZ W' g c m cc nx T lo:=⟨h.kp.turned t (.inl hd),h.cp.turned t (.inl (Nat.le_of_lt hd))⟩
theorem BZ.new (h:TAns W (.agg #[.slice c m cc,.int .i64 nx]) T lo W.heap.size) (t:TypeId):BZ (W.alloc (.cells #[.slice c m cc,.int .i64 nx] t)) W.heap.size c m cc nx T lo:=⟨qad W #[.slice c m cc,.int .i64 nx] t,h.below ((Below.refl _ _).alloc (Nat.le_refl _) _)⟩
attribute [local irreducible] newX markK
end Go.Proofs.YtoglebfiobofoaaGreatDoor
/- LkN: . -/
namespace Go.Proofs.YtoglebfiobofoaaGreatDoor
set_option maxRecDepth 100000
set_option maxHeartbeats 16000000
open Go.RowKit
attribute [local go_sem ↓] Go.wp_at_zero Go.wp_at_succ
variable {k n:Nat}
theorem qji (w:World):Calls Tryz.prog 38 #[] w fun e w'=>qoo newX w e w':=by
 go_enter Tryz.func38,Tryz.ntmps38
 go_wp2_with fail
 refine qac (fun W=>WCells W w.heap.size [.slice (some ⟨w.heap.size+1,0,none⟩) 1 1,.int .i64 2]/\WCells W (w.heap.size+1) (qaj newR)/\Below w.heap.size w W) ⟨(qad w #[.slice (some ⟨w.heap.size+1,0,none⟩) 1 1,.int .i64 2] 42).alloc _,?h2,((Below.refl _ _).alloc (Nat.le_refl _) _).alloc (by simp) _⟩ ?_
 case h2 =>
  have:=qad (w.alloc (.cells #[.slice (some ⟨w.heap.size+1,0,none⟩) 1 1,.int .i64 2] 42)) (qaj newR).toArray 87
  rw [show (w.alloc (.cells #[.slice (some ⟨w.heap.size+1,0,none⟩) 1 1,.int .i64 2] 42)).heap.size=w.heap.size+1 by simp] at this
  exact this
 rintro W ⟨h1,h2,hb⟩
 have x0:=(h1.2 0 _ rfl).1
 have x1:=(h1.2 1 _ rfl).1
 refine bodyPost_ret (v:=.agg #[.slice (some ⟨w.heap.size+1,0,none⟩) 1 1,.int .i64 2]) (by simp [results,Tryz.results38,go_sem,x0,x1]) rfl ⟨_,rfl,⟨_,1,[newR],rfl,rfl,Nat.le_refl _,.inr ⟨_,rfl,?_⟩⟩,hb⟩
 exact ⟨by simpa [NK.cells] using h2,by omega,h2.1,fun r hr=>.inl (by rw [List.mem_singleton.1 hr];rfl),by simp⟩
theorem eqAct_same (f:AM) (w:World) :
  Calls Tryz.prog 57 #[av f,av f] w fun e w'=>e = .returned (.bool true)/\Below w.heap.size w w':=by
 go_enter Tryz.func57,Tryz.ntmps57
 go_wp2_with fail
 go_ret
 exact ⟨rfl,((Below.refl _ _).alloc (Nat.le_refl _) _).alloc (by simp) _⟩
theorem eqActS_same (a b:Option Addr) (fs:List AM) (ca cb:Nat) (w:World) (ha:ARow w a fs) (hb:ARow w b fs) (hl:fs.length<=1048576) :
  Calls Tryz.prog 22 #[.slice a fs.length ca,.slice b fs.length cb] w fun e w'=>e = .returned (.bool true)/\Below w.heap.size w w':=by
 have HA:Hid (ARow w a fs):=ha
 have HB:Hid (ARow w b fs):=hb
 clear ha hb
 go_enter Tryz.func22,Tryz.ntmps22
 go_wp2_with fail
 go_loopw [5] (fun i wr=>∃ (k:Nat),i = .int .i64 k/\k<=fs.length/\Below w.heap.size w wr) (fun i _=>fs.length - (intOf i).toNat)
 case atStart=>exact ⟨0,rfl,Nat.zero_le _,Below.refl _ _⟩
 case round =>
  obtain ⟨k,rfl,hk,hbl⟩:=hrel
  by_cases hlt:k<fs.length
  ·obtain ⟨b1,o1,rfl,l1,hc1⟩:=ARow.at (HA.out.stays hbl) (by omega)
   obtain ⟨b2,o2,rfl,l2,hc2⟩:=ARow.at (HB.out.stays hbl) (by omega)
   obtain ⟨d0,d1,d2,d3⟩:=hc1 k hlt
   obtain ⟨e0,e1,e2,e3⟩:=hc2 k hlt
   obtain ⟨f,hfe⟩:∃ f,f=fs[k]:=⟨_,rfl⟩
   rw [<-hfe] at d0 d1 d2 d3 e0 e1 e2 e3
   have HS:Hid (Below w.heap.size w wr):=hbl
   have k0:(0:Int)<=(k:Int):=by omega
   have k1:(k:Int)<(fs.length:Int):=by omega
   clear hc1 hc2 hfe hbl
   go_wp2_with fail
   go_region_held3 (fun w'=>w'.cell? ⟨b1,o1+k*4,none⟩=some (.int .i64 f.kind)/\w'.cell? ⟨b1,o1+k*4+1,none⟩=some (.string f.name)/\w'.cell? ⟨b1,o1+k*4+2,none⟩=some (.string f.text)/\w'.cell? ⟨b1,o1+k*4+3,none⟩=some (.string f.dst)/\w'.cell? ⟨b2,o2+k*4,none⟩=some (.int .i64 f.kind)/\w'.cell? ⟨b2,o2+k*4+1,none⟩=some (.string f.name)/\w'.cell? ⟨b2,o2+k*4+2,none⟩=some (.string f.text)/\w'.cell? ⟨b2,o2+k*4+3,none⟩=some (.string f.dst))
    (first | go_keep | (refine ⟨?_,?_,?_,?_,?_,?_,?_,?_⟩ <;> first | (rw [hb2.cell (by exact l1)];simp [*]) | (rw [hb2.cell (by exact l2)];simp [*])))
    ((go_at_call 57;refine (eqAct_same f _).mono ?_;rintro e w2 ⟨rfl,hb2⟩))
   all_goals go_wp2_with fail
   all_goals
    have hb3:Below w.heap.size w w2:=HS.out.trans ((Below.drew (Below.refl _ _)).trans (hb2.mono HS.out.size))
    exact ⟨⟨k+1,by go_num,by omega,hb3⟩,by simp [intOf];omega⟩
  ·have e:k=fs.length:=by omega
   subst e
   go_wp2_with fail
   go_ret
   exact ⟨rfl,hbl⟩
def markA (k:Nat):AM:=⟨((k:Nat):Int),mt (k+1),mt (k+2),mt (k+3)⟩
def qdv (k n:Nat):List AM:=(List.range n).map fun j=>markA (k+4*j)
theorem qhe (k n:Nat):(qdv k n).length=n:=by simp [qdv]
theorem qmr (k n j:Nat) (h:j<(qdv k n).length):(qdv k n)[j]=markA (k+4*j):=by simp [qdv]
theorem marksA_all {ys:List AM} (hl:ys.length=n) (h:∀ t,t<n->ys[t]?=some (markA (k+4*t))):ys=qdv k n:=by
 apply List.ext_getElem
 ·rw [hl,qhe]
 ·intro i h1 h2
  rw [qmr]
  have:=h i (by omega)
  rw [List.getElem?_eq_getElem h1] at this
  exact Option.some.inj this
theorem markActS_zero (a:Option Addr) (k ca:Nat) (w:World) :
  Calls Tryz.prog 26 #[.slice a 0 ca,.int .i64 k] w fun e w'=>e = .returned (.int .i64 k)/\w'=w:=by
 go_enter Tryz.func26,Tryz.ntmps26
 go_wp2_with fail
 go_rounds 1
 go_ret
 exact ⟨rfl,rfl⟩
theorem markActS_all (g:Nat) (xs:List AM) (k ca:Nat) (w:World) (ha:WCells w g (acs xs)) (hk:0<k) (hn:k+4*xs.length<=1000000000) (hca:xs.length<=ca) :
  Calls Tryz.prog 26 #[.slice (some ⟨g,0,none⟩) xs.length ca,.int .i64 k] w fun e w'=>e = .returned (.int .i64 (k+4*xs.length:Nat))/\WCells w' g (acs (qdv k xs.length))/\w.grownBy w' (some g):=by
 obtain ⟨n,hnx⟩:∃ n,n=xs.length:=⟨_,rfl⟩
 have HN:=Sh.mk hnx
 rw [<-hnx]
 rw [<-hnx] at hn hca
 clear hnx
 have HA:=Sh.mk ha
 clear ha
 go_enter Tryz.func26,Tryz.ntmps26
 go_wp2_with fail
 go_loopw [1,5] (fun c i wr=>∃ (j:Nat) (ys:List AM),i = .int .i64 j/\c = .int .i64 (k+4*j:Nat)/\j<=n/\Sh (ys.length=n/\(∀ t,t<j->ys[t]?=some (markA (k+4*t)))/\WCells wr g (acs ys)/\w.grownBy wr (some g))) (fun _ i _=>n - (intOf i).toNat)
 case atStart=>exact ⟨0,xs,rfl,rfl,Nat.zero_le _,⟨HN.1.symm,fun t ht=>by omega,HA.1,grownBy_below (Below.refl _ _)⟩⟩
 case round =>
  obtain ⟨j,ys,rfl,rfl,hj,HH⟩:=hrel
  by_cases hlt:j<n
  ·have j0:(0:Int)<=(j:Int):=by omega
   have j1:(j:Int)<(n:Int):=by omega
   have hly:(acs ys).length=n*4:=by rw [qoy,HH.1.1]
   have hw0:=HH.1.2.2.1
   have Q1:Sh (∀ W:World,Calls Tryz.prog 61 #[.int .i64 ((k:Int)+4*(j:Int)+1)] W fun e w'=>e = .returned (.string (mt (k+4*j+1)))/\Below W.heap.size W w'):=⟨fun W=>by
    have q:=qbc (k+4*j+1) W (by omega) (by omega)
    rwa [show ((k+4*j+1:Nat):Int)=(k:Int)+4*(j:Int)+1 by push_cast;omega] at q⟩
   have Q2:Sh (∀ W:World,Calls Tryz.prog 61 #[.int .i64 ((k:Int)+4*(j:Int)+1+1)] W fun e w'=>e = .returned (.string (mt (k+4*j+2)))/\Below W.heap.size W w'):=⟨fun W=>by
    have q:=qbc (k+4*j+2) W (by omega) (by omega)
    rwa [show ((k+4*j+2:Nat):Int)=(k:Int)+4*(j:Int)+1+1 by push_cast;omega] at q⟩
   have Q3:Sh (∀ W:World,Calls Tryz.prog 61 #[.int .i64 ((k:Int)+4*(j:Int)+1+1+1)] W fun e w'=>e = .returned (.string (mt (k+4*j+3)))/\Below W.heap.size W w'):=⟨fun W=>by
    have q:=qbc (k+4*j+3) W (by omega) (by omega)
    rwa [show ((k+4*j+3:Nat):Int)=(k:Int)+4*(j:Int)+1+1+1 by push_cast;omega] at q⟩
   obtain ⟨c0,z0⟩:=hw0.2 (j*4) _ (List.getElem?_eq_getElem (by first | omega | (simp only [List.length_set];omega)))
   have HS0:Sh (WCells (wr.setCell ⟨g,j*4,none⟩ (.int .i64 ((k:Int)+4*(j:Int)))) g ((acs ys).set (j*4) (.int .i64 ((k:Int)+4*(j:Int))))):=⟨hw0.set (j*4) _ (by first | omega | (simp only [List.length_set];omega))⟩
   have HG0:Sh (w.grownBy (wr.setCell ⟨g,j*4,none⟩ (.int .i64 ((k:Int)+4*(j:Int)))) (some g)):=⟨(qax HH.1.2.2.2 (grownBy_setCell _ g _ _))⟩
   go_wp2_with fail
   refine (Q1.1 _).mono ?_
   rintro e w1 ⟨rfl,hb1⟩
   have hv1:=HS0.1.grow hb1
   obtain ⟨c1,z1⟩:=hv1.2 (j*4+1) _ (List.getElem?_eq_getElem (by first | omega | (simp only [List.length_set];omega)))
   have HS1:Sh (WCells (w1.setCell ⟨g,j*4+1,none⟩ (.string (mt (k+4*j+1)))) g (((acs ys).set (j*4) (.int .i64 ((k:Int)+4*(j:Int)))).set (j*4+1) (.string (mt (k+4*j+1))))):=⟨hv1.set (j*4+1) _ (by first | omega | (simp only [List.length_set];omega))⟩
   have HG1:Sh (w.grownBy (w1.setCell ⟨g,j*4+1,none⟩ (.string (mt (k+4*j+1)))) (some g)):=⟨(qax (qax HG0.1 (grownBy_below hb1)) (grownBy_setCell _ g _ _))⟩
   go_wp2_with fail
   refine (Q2.1 _).mono ?_
   rintro e w2 ⟨rfl,hb2⟩
   have hv2:=HS1.1.grow hb2
   obtain ⟨c2,z2⟩:=hv2.2 (j*4+2) _ (List.getElem?_eq_getElem (by first | omega | (simp only [List.length_set];omega)))
   have HS2:Sh (WCells (w2.setCell ⟨g,j*4+2,none⟩ (.string (mt (k+4*j+2)))) g ((((acs ys).set (j*4) (.int .i64 ((k:Int)+4*(j:Int)))).set (j*4+1) (.string (mt (k+4*j+1)))).set (j*4+2) (.string (mt (k+4*j+2))))):=⟨hv2.set (j*4+2) _ (by first | omega | (simp only [List.length_set];omega))⟩
   have HG2:Sh (w.grownBy (w2.setCell ⟨g,j*4+2,none⟩ (.string (mt (k+4*j+2)))) (some g)):=⟨(qax (qax HG1.1 (grownBy_below hb2)) (grownBy_setCell _ g _ _))⟩
   go_wp2_with fail
   refine (Q3.1 _).mono ?_
   rintro e w3 ⟨rfl,hb3⟩
   have hv3:=HS2.1.grow hb3
   obtain ⟨c3,z3⟩:=hv3.2 (j*4+3) _ (List.getElem?_eq_getElem (by first | omega | (simp only [List.length_set];omega)))
   have HS3:Sh (WCells (w3.setCell ⟨g,j*4+3,none⟩ (.string (mt (k+4*j+3)))) g (((((acs ys).set (j*4) (.int .i64 ((k:Int)+4*(j:Int)))).set (j*4+1) (.string (mt (k+4*j+1)))).set (j*4+2) (.string (mt (k+4*j+2)))).set (j*4+3) (.string (mt (k+4*j+3))))):=⟨hv3.set (j*4+3) _ (by first | omega | (simp only [List.length_set];omega))⟩
   have HG3:Sh (w.grownBy (w3.setCell ⟨g,j*4+3,none⟩ (.string (mt (k+4*j+3)))) (some g)):=⟨(qax (qax HG2.1 (grownBy_below hb3)) (grownBy_setCell _ g _ _))⟩
   have hE:(⟨(k:Int)+4*(j:Int),mt (k+4*j+1),mt (k+4*j+2),mt (k+4*j+3)⟩:AM)=markA (k+4*j):=by
    unfold markA
    congr 1 <;> (push_cast;omega)
   have HF:Sh (WCells (w3.setCell ⟨g,j*4+3,none⟩ (.string (mt (k+4*j+3)))) g (acs (ys.set j ⟨(k:Int)+4*(j:Int),mt (k+4*j+1),mt (k+4*j+2),mt (k+4*j+3)⟩))):=⟨by
    have hfin:(((((acs ys).set (j*4) (.int .i64 ((k:Int)+4*(j:Int)))).set (j*4+1) (.string (mt (k+4*j+1)))).set (j*4+2) (.string (mt (k+4*j+2)))).set (j*4+3) (.string (mt (k+4*j+3))))=acs (ys.set j ⟨(k:Int)+4*(j:Int),mt (k+4*j+1),mt (k+4*j+2),mt (k+4*j+3)⟩):=qjw qcy ys j (by have:=HH.1.1;omega) (⟨(k:Int)+4*(j:Int),mt (k+4*j+1),mt (k+4*j+2),mt (k+4*j+3)⟩:AM)
    have q:=HS3.1
    rw [hfin] at q
    exact q⟩
   rw [hE] at HF
   clear HS0 HS1 HS2 HS3 HG0 HG1 HG2 hw0 hb1 hv1 hb2 hv2 hb3 hv3 hE
   go_wp2_with fail
   go_roundw
   case rel =>
    refine ⟨j+1,ys.set j (markA (k+4*j)),by go_num,congrArg (Value.int .i64) (by omega),by omega,⟨by rw [List.length_set];exact HH.1.1,fun t ht=>?_,?_,?_⟩⟩
    rotate_left
    ·exact HF.1
    ·exact HG3.1
    by_cases hjt:t=j
    ·subst hjt
     rw [List.getElem?_set_self (by have:=HH.1.1;omega)]
    ·rw [List.getElem?_set_ne (Ne.symm hjt)]
     exact HH.1.2.1 t (by omega)
   case measure=>simp [intOf];omega
  ·have e:j=n:=by omega
   subst e
   have hfin:=marksA_all HH.1.1 HH.1.2.1
   subst hfin
   go_wp2_with fail
   go_ret
   exact ⟨rfl,HH.1.2.2.1,HH.1.2.2.2⟩
theorem markActS_row (va:Option Addr) (xs:List AM) (k ca lo hi:Nat) (w:World) (h:FRw w va (acs xs) lo hi) (hk:0<k) (hn:k+4*xs.length<=1000000000) (hca:xs.length<=ca) :
  Calls Tryz.prog 26 #[.slice va xs.length ca,.int .i64 k] w fun e w'=>e = .returned (.int .i64 (k+4*xs.length:Nat))/\FRw w' va (acs (qdv k xs.length)) lo hi/\∃ row,w.grownBy w' row/\∀ g,row=some g->lo<=g/\g<hi:=by
 rcases h with ⟨rfl,hX⟩ | ⟨g,rfl,h1,h2,h3⟩
 ·have e:xs=[]:=by
   have:=congrArg List.length hX
   rw [qoy] at this
   exact List.eq_nil_of_length_eq_zero (by simp at this;omega)
  subst e
  refine (markActS_zero none k ca w).mono ?_
  rintro e w' ⟨rfl,rfl⟩
  exact ⟨by simp,.inl ⟨rfl,by simp [qdv,acs]⟩,none,⟨rfl,rfl,rfl,Nat.le_refl _,fun _ _ _=>rfl⟩,by simp⟩
 ·refine (markActS_all g xs k ca w h3 hk hn hca).mono ?_
  rintro e w' ⟨rfl,h4,h5⟩
  exact ⟨rfl,.inr ⟨g,rfl,h1,h2,h4⟩,some g,h5,fun g' e=>by simp at e;omega⟩
theorem heldActS_any (a:Option Addr) (k n ca:Nat) (w:World) (ha:ARow w a (qdv k n)) (hk:0<k) (hn:k+4*n<=1000000000) :
  Calls Tryz.prog 28 #[.slice a n ca,.int .i64 k] w fun e w'=>e = .returned (.int .i64 (k+4*n:Nat))/\Below w.heap.size w w':=by
 have HA:=Sh.mk ha
 clear ha
 go_enter Tryz.func28,Tryz.ntmps28
 go_wp2_with fail
 go_loopw [1,5] (fun c i wr=>∃ (j:Nat),i = .int .i64 j/\c = .int .i64 (k+4*j:Nat)/\j<=n/\Below w.heap.size w wr) (fun _ i _=>n - (intOf i).toNat)
 case atStart=>exact ⟨0,rfl,rfl,Nat.zero_le _,Below.refl _ _⟩
 case round =>
  obtain ⟨j,rfl,rfl,hj,hb⟩:=hrel
  have HB:=Sh.mk hb
  by_cases hlt:j<n
  ·obtain ⟨b,off,rfl,lb,hc⟩:=ARow.at (HA.1.stays hb) (by rw [qhe];omega)
   obtain ⟨d0,d1,d2,d3⟩:=hc j (by rw [qhe];omega)
   rw [qmr] at d0 d1 d2 d3
   rw [show (markA (k+4*j)).kind=(k:Int)+4*(j:Int) by show ((k+4*j:Nat):Int)=_;push_cast;omega] at d0
   rw [show (markA (k+4*j)).name=mt (k+4*j+1) from rfl] at d1
   rw [show (markA (k+4*j)).text=mt (k+4*j+2) from rfl] at d2
   rw [show (markA (k+4*j)).dst=mt (k+4*j+3) from rfl] at d3
   have j0:(0:Int)<=(j:Int):=by omega
   have j1:(j:Int)<(n:Int):=by omega
   have Q1:Sh (∀ W:World,Calls Tryz.prog 61 #[.int .i64 ((k:Int)+4*(j:Int)+1)] W fun e w'=>e = .returned (.string (mt (k+4*j+1)))/\Below W.heap.size W w'):=⟨fun W=>by
    have q:=qbc (k+4*j+1) W (by omega) (by omega)
    rwa [show ((k+4*j+1:Nat):Int)=(k:Int)+4*(j:Int)+1 by push_cast;omega] at q⟩
   have hs1:((mt (k+4*j+1)).toList==(mt (k+4*j+1)).toList)=true:=by simp
   have Q2:Sh (∀ W:World,Calls Tryz.prog 61 #[.int .i64 ((k:Int)+4*(j:Int)+1+1)] W fun e w'=>e = .returned (.string (mt (k+4*j+2)))/\Below W.heap.size W w'):=⟨fun W=>by
    have q:=qbc (k+4*j+2) W (by omega) (by omega)
    rwa [show ((k+4*j+2:Nat):Int)=(k:Int)+4*(j:Int)+1+1 by push_cast;omega] at q⟩
   have hs2:((mt (k+4*j+2)).toList==(mt (k+4*j+2)).toList)=true:=by simp
   have Q3:Sh (∀ W:World,Calls Tryz.prog 61 #[.int .i64 ((k:Int)+4*(j:Int)+1+1+1)] W fun e w'=>e = .returned (.string (mt (k+4*j+3)))/\Below W.heap.size W w'):=⟨fun W=>by
    have q:=qbc (k+4*j+3) W (by omega) (by omega)
    rwa [show ((k+4*j+3:Nat):Int)=(k:Int)+4*(j:Int)+1+1+1 by push_cast;omega] at q⟩
   have hs3:((mt (k+4*j+3)).toList==(mt (k+4*j+3)).toList)=true:=by simp
   clear hc hb
   go_wp2_with fail
   go_region_held3 (fun w'=>w'.cell? ⟨b,off+j*4+1,none⟩=some (.string (mt (k+4*j+1)))) (first | go_keep | (rw [hb1.cell (p:=⟨b,off+j*4+1,none⟩) (by exact lb)];assumption)) ((go_at_call 61;refine (Q1.1 _).mono ?_;rintro e w1 ⟨rfl,hb1⟩))
   all_goals
    have lb1:b<w1.heap.size:=Nat.lt_of_lt_of_le lb hb1.size
    replace d2:=(hb1.cell (p:=⟨b,off+j*4+2,none⟩) lb).trans d2
    replace d3:=(hb1.cell (p:=⟨b,off+j*4+3,none⟩) lb).trans d3
    have HB1:Sh (Below w.heap.size w w1):=⟨HB.1.trans ((Below.drew (Below.refl _ _)).trans (hb1.mono HB.1.size))⟩
    clear hb1 d0 d1
    go_wp2_with fail
    go_region_held3 (fun w'=>w'.cell? ⟨b,off+j*4+2,none⟩=some (.string (mt (k+4*j+2)))) (first | go_keep | (rw [hb2.cell (p:=⟨b,off+j*4+2,none⟩) (by exact lb1)];assumption)) ((go_at_call 61;refine (Q2.1 _).mono ?_;rintro e w2 ⟨rfl,hb2⟩))
    all_goals
     have lb2:b<w2.heap.size:=Nat.lt_of_lt_of_le lb1 hb2.size
     replace d3:=(hb2.cell (p:=⟨b,off+j*4+3,none⟩) lb1).trans d3
     have HB2:Sh (Below w.heap.size w w2):=⟨HB1.1.trans ((Below.drew (Below.refl _ _)).trans (hb2.mono HB1.1.size))⟩
     clear hb2 d2
     go_wp2_with fail
     go_region_held3 (fun w'=>w'.cell? ⟨b,off+j*4+3,none⟩=some (.string (mt (k+4*j+3)))) (first | go_keep | (rw [hb3.cell (p:=⟨b,off+j*4+3,none⟩) (by exact lb2)];assumption)) ((go_at_call 61;refine (Q3.1 _).mono ?_;rintro e w3 ⟨rfl,hb3⟩))
     all_goals
      have lb3:b<w3.heap.size:=Nat.lt_of_lt_of_le lb2 hb3.size
      have HB3:Sh (Below w.heap.size w w3):=⟨HB2.1.trans ((Below.drew (Below.refl _ _)).trans (hb3.mono HB2.1.size))⟩
      clear hb3 d3
      go_wp2_with fail
      exact ⟨⟨j+1,by go_num,congrArg (Value.int .i64) (by omega),by omega,HB3.1⟩,by simp [intOf];omega⟩
  ·have e:j=n:=by omega
   subst e
   go_wp2_with fail
   go_ret
   exact ⟨rfl,hb⟩
def markF (k:Nat):FM:=⟨mt k,mt (k+1),((k+2:Nat):Int)⟩
def qeu (k n:Nat):List FM:=(List.range n).map fun j=>markF (k+3*j)
theorem marksF_len (k n:Nat):(qeu k n).length=n:=by simp [qeu]
theorem marksF_at (k n j:Nat) (h:j<(qeu k n).length):(qeu k n)[j]=markF (k+3*j):=by simp [qeu]
theorem marked_all {ys:List FM} (hl:ys.length=n) (h:∀ t,t<n->ys.getD t default=markF (k+3*t)):ys=qeu k n:=by
 apply List.ext_getElem
 ·rw [hl,marksF_len]
 ·intro i h1 h2
  rw [marksF_at]
  have:=h i (by omega)
  simpa [List.getD,h1] using this
theorem fcs_three (ys:List FM) (j:Nat) (hj:j<ys.length) (f:FM):(((fcs ys).set (j*3) (.string f.name)).set (j*3+1) (.string f.text)).set (j*3+2) (.int .i64 f.kept)=fcs (ys.set j f):=
 qjw qbi ys j hj f
theorem markFileS_none (a:Option Addr) (k ca:Nat) (w:World) :
  Calls Tryz.prog 59 #[.slice a 0 ca,.int .i64 k] w fun e w'=>e = .returned (.int .i64 k)/\w'=w:=by
 go_enter Tryz.func59,Tryz.ntmps59
 go_wp2_with fail
 go_rounds 1
 go_ret
 exact ⟨rfl,rfl⟩
def qpy (g k n:Nat) (w:World) (e:Ending) (w':World):Prop:=e = .returned (.int .i64 (k+3*n:Nat))/\WCells w' g (fcs (qeu k n))/\w.grownBy w' (some g)
theorem markFileS_any (g:Nat) (xs:List FM) (k ca:Nat) (w:World) (ha:WCells w g (fcs xs)) (hk:0<k) (hn:k+3*xs.length<=1000000000) (hca:xs.length<=ca) :
  Calls Tryz.prog 59 #[.slice (some ⟨g,0,none⟩) xs.length ca,.int .i64 k] w fun e w'=>qpy g k xs.length w e w':=by
 obtain ⟨n,hnx⟩:∃ n,n=xs.length:=⟨_,rfl⟩
 have HN:Hid (n=xs.length):=hnx
 rw [<-hnx]
 rw [<-hnx] at hn hca
 clear hnx
 have HA:Hid (WCells w g (fcs xs)):=ha
 clear ha
 go_enter Tryz.func59,Tryz.ntmps59
 go_wp2_with fail
 go_loopw [1,5] (fun c i wr=>∃ (j:Nat) (ys:List FM),i = .int .i64 j/\c = .int .i64 (k+3*j:Nat)/\j<=n/\ys.length=n/\(∀ t,t<j->ys.getD t default=markF (k+3*t))/\Sh (WCells wr g (fcs ys))/\w.grownBy wr (some g)) (fun _ i _=>n - (intOf i).toNat)
 case atStart=>exact ⟨0,xs,rfl,rfl,Nat.zero_le _,HN.out.symm,fun t ht=>by omega,⟨HA.out⟩,grownBy_below (Below.refl _ _)⟩
 case round =>
  obtain ⟨j,ys,rfl,rfl,hj,hyl,hys,hw,hgr⟩:=hrel
  have HL:Hid (ys.length=n):=hyl
  have HY:Hid (∀ t,t<j->ys.getD t default=markF (k+3*t)):=hys
  have HW:Hid (WCells wr g (fcs ys)):=hw.1
  have HGR:Hid (w.grownBy wr (some g)):=hgr
  clear hyl hys hw hgr
  by_cases hlt:j<n
  ·have j0:(0:Int)<=(j:Int):=by omega
   have j1:(j:Int)<(n:Int):=by omega
   have hly:(fcs ys).length=n*3:=by rw [qly,HL.out]
   go_wp2_with fail
   refine (qbc (k+3*j) _ (by omega) (by omega)).mono ?_
   rintro e w1 ⟨rfl,hb1⟩
   have hw1:=HW.out.below hb1 HW.out.1
   obtain ⟨c0,z0⟩:=hw1.2 (j*3) _ (List.getElem?_eq_getElem (by omega))
   have hs0:=hw1.set (j*3) (.string (mt (k+3*j))) (by omega)
   have HS0:Hid (WCells (w1.setCell ⟨g,j*3,none⟩ (.string (mt (k+3*j)))) g ((fcs ys).set (j*3) (.string (mt (k+3*j))))):=hs0
   have HG0:Hid (w.grownBy (w1.setCell ⟨g,j*3,none⟩ (.string (mt (k+3*j)))) (some g)):=qax HGR.out (qax (grownBy_below hb1) (grownBy_setCell w1 g _ _))
   clear hb1 hw1 hs0
   have q:=qbc (k+3*j+1) (w1.setCell ⟨g,j*3,none⟩ (.string (mt (k+3*j)))) (by omega) (by omega)
   rw [show ((k+3*j+1:Nat):Int)=(k:Int)+3*(j:Int)+1 by push_cast;rfl] at q
   have Q:Hid (Calls Tryz.prog 61 #[.int .i64 ((k:Int)+3*(j:Int)+1)] (w1.setCell ⟨g,j*3,none⟩ (.string (mt (k+3*j)))) fun e w'=>e = .returned (.string (mt (k+3*j+1)))/\Below (w1.setCell ⟨g,j*3,none⟩ (.string (mt (k+3*j)))).heap.size (w1.setCell ⟨g,j*3,none⟩ (.string (mt (k+3*j)))) w'):=q
   clear q
   go_wp2_with fail
   refine Q.out.mono ?_
   rintro e w2 ⟨rfl,hb2⟩
   have hw2:=HS0.out.grow hb2
   obtain ⟨c1,z1⟩:=hw2.2 (j*3+1) _ (List.getElem?_eq_getElem (by rw [List.length_set];omega))
   have hs1:=hw2.set (j*3+1) (.string (mt (k+3*j+1))) (by rw [List.length_set];omega)
   obtain ⟨c2,z2⟩:=hs1.2 (j*3+2) _ (List.getElem?_eq_getElem (by rw [List.length_set,List.length_set];omega))
   have hs2:=hs1.set (j*3+2) (.int .i64 ((k+3*j+2:Nat):Int)) (by rw [List.length_set,List.length_set];omega)
   have hfin:=fcs_three ys j (by have:=HL.out;omega) (markF (k+3*j))
   rw [show (markF (k+3*j)).name=mt (k+3*j) from rfl,show (markF (k+3*j)).text=mt (k+3*j+1) from rfl,show (markF (k+3*j)).kept=((k+3*j+2:Nat):Int) from rfl] at hfin
   rw [hfin,show ((k+3*j+2:Nat):Int)=(k:Int)+3*(j:Int)+1+1 by push_cast;omega] at hs2
   have HS2:Hid (WCells (((w2.setCell ⟨g,j*3+1,none⟩ (.string (mt (k+3*j+1)))).setCell ⟨g,j*3+2,none⟩ (.int .i64 ((k:Int)+3*(j:Int)+1+1)))) g (fcs (ys.set j (markF (k+3*j))))):=hs2
   have HG2:Hid (w.grownBy (((w2.setCell ⟨g,j*3+1,none⟩ (.string (mt (k+3*j+1)))).setCell ⟨g,j*3+2,none⟩ (.int .i64 ((k:Int)+3*(j:Int)+1+1)))) (some g)):=qax HG0.out (qax (grownBy_below hb2) (qax (grownBy_setCell w2 g _ _) (grownBy_setCell _ g _ _)))
   clear hb2 hw2 hs1 hs2 hfin Q HS0 HG0
   go_wp2_with fail
   go_roundw
   case rel =>
    refine ⟨j+1,ys.set j (markF (k+3*j)),by go_num,congrArg (Value.int .i64) (by omega),by omega,by rw [List.length_set];exact HL.out,fun t ht=>?_,⟨HS2.out⟩,HG2.out⟩
    by_cases hjt:t=j
    ·subst hjt
     simp [List.getD,show t<ys.length by have:=HL.out;omega]
    ·rw [List.getD_eq_getElem?_getD,List.getElem?_set_ne (Ne.symm hjt),<-List.getD_eq_getElem?_getD]
     exact HY.out t (by omega)
   case measure=>simp [intOf];omega
  ·have e:j=n:=by omega
   subst e
   have hfin:=marked_all HL.out HY.out
   subst hfin
   go_wp2_with fail
   go_ret
   exact ⟨rfl,HW.out,HGR.out⟩
end Go.Proofs.YtoglebfiobofoaaGreatDoor
