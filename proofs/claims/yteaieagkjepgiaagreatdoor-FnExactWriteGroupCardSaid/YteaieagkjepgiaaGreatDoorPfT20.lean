/- Texts of ours, laid one behind the other: TTwC, TWgI, THsB. -/
import Derived.Test.YteaieagkjepgiaaGreatDoorPfT19
import Derived.Deep.RegionWith
import Derived.Deep.Cut
set_option linter.unusedVariables false
set_option linter.unusedSimpArgs false
/- . -/
namespace Go.Proofs.YteaieagkjepgiaaGreatDoorT
set_option maxRecDepth 100000
open Go.RowKit
open Go.Proofs.YteaieagkjepgiaaGreatDoor (cellV RcReg wp_take wp_shut)
attribute [local go_sem ↓] Go.wp_at_zero Go.wp_at_succ
def chLeft (c:Nat) (w:World):Nat:=match w.heap[c]? with
 | some (.chan _ b _ _ _ _)=>b.size
 | _=>0
theorem chLeft_is {c cap m r:Nat} {b:Array Value} {cl tm:Bool} {w:World} (h:w.heap[c]?=some (.chan cap b cl m r tm)):chLeft c w=b.size:=by unfold chLeft;rw [h]
theorem twClone (s:ByteArray) (w:World) (h:s.size<=281474976710656):Calls Tw.prog 44 #[.string s] w fun e w'=>e = .returned (.string s)/\Below w.heap.size w w':=by
 go_enter Tw.func44,Tw.ntmps44
 go_wp2_with fail
 refine (Tw.stringslite_Clone s _ h).mono ?_
 rintro e w1 ⟨rfl,hb⟩
 go_wp2_with fail
 go_ret
 exact ⟨rfl,hb⟩
theorem cellsK_more {k n i:Nat}:∀ {f:Nat},n<=i+4*f->i<n->∃ f',cellsK k n f i=cellV (i:Nat) (min (i+4) n:Nat) (unitAt k i:Nat) (placeIn k i:Nat)::cellsK k n f' (i+4)/\n<=i+4+4*f'
 | 0,h,h'=>absurd h (by omega)
 | f+1,h,h'=>⟨f,by rw [cellsK,if_pos h'],by omega⟩
theorem cellsK_none {k n i:Nat} (h:n<=i):∀ f:Nat,cellsK k n f i=[]
 | 0=>rfl
 | f+1=>by rw [cellsK,if_neg (by omega)]
theorem chan_alloc {w:World} {c:Nat} {o o':Obj} (h:w.heap[c]?=some o):(w.alloc o').heap[c]?=some o:=by
 have hc:c<w.heap.size:=(Array.getElem?_eq_some_iff.1 h).1
 exact (((Below.refl w.heap.size w).alloc (Nat.le_refl _) o').block c hc).trans h
theorem chan_lt {w:World} {c:Nat} {o:Obj} (h:w.heap[c]?=some o):c<w.heap.size:=(Array.getElem?_eq_some_iff.1 h).1
theorem cell_not {w:World} {g:Nat} {L:List Value} (h:WCells w g L) (hl:0<L.length) {c cap m r:Nat} {b:Array Value} {cl tm:Bool} (hc:w.heap[c]?=some (.chan cap b cl m r tm)):g ≠ c:=by
 rintro rfl
 have:=(h.2 0 _ (List.getElem?_eq_getElem hl)).1
 simp [World.cell?,hc] at this
def C4 (w:World) (g:Nat) (a b u p:Nat):Prop:=w.cell? ⟨g,0,none⟩=some (.int .i64 (a:Nat))/\w.cell? ⟨g,1,none⟩=some (.int .i64 (b:Nat))/\w.cell? ⟨g,2,none⟩=some (.int .i64 (u:Nat))/\w.cell? ⟨g,3,none⟩=some (.int .i64 (p:Nat))
theorem cell_inC {w:World} {p:Addr} {v:Value} (h:w.cell? p=some v):p.block<w.heap.size:=by
 by_cases c:p.block<w.heap.size
 ·exact c
 ·exfalso
  unfold World.cell? at h
  rw [Array.getElem?_eq_none (by omega)] at h
  simp at h
theorem C4.below {w w':World} {g a b u p:Nat} (h:C4 w g a b u p) (hb:Below w.heap.size w w'):C4 w' g a b u p:=
 ⟨(hb.cell (p:=⟨g,0,none⟩) (cell_inC h.1)).trans h.1,(hb.cell (p:=⟨g,1,none⟩) (cell_inC h.2.1)).trans h.2.1,(hb.cell (p:=⟨g,2,none⟩) (cell_inC h.2.2.1)).trans h.2.2.1,(hb.cell (p:=⟨g,3,none⟩) (cell_inC h.2.2.2)).trans h.2.2.2⟩
theorem C4.new (w:World) (a b u p:Nat) (t:TypeId):C4 (w.alloc (.cells #[.int .i64 (a:Nat),.int .i64 (b:Nat),.int .i64 (u:Nat),.int .i64 (p:Nat)] t)) w.heap.size a b u p:=by
 have h:=wcells_new w #[.int .i64 (a:Nat),.int .i64 (b:Nat),.int .i64 (u:Nat),.int .i64 (p:Nat)] t
 exact ⟨(h.2 0 _ rfl).1,(h.2 1 _ rfl).1,(h.2 2 _ rfl).1,(h.2 3 _ rfl).1⟩
theorem C4.set {w:World} {g a b u p:Nat} (h:C4 w g a b u p) (q:Addr) (v:Value) (hq:g ≠ q.block):C4 (w.setCell q v) g a b u p:=by
 have e:=Below.heap_setCell w q v g hq
 unfold C4 World.cell? at h ⊢
 simp only [e]
 exact h
def CU8 (w:World) (g u:Nat) (x:ByteArray):Prop:=w.cell? ⟨g,u,none⟩=some (.string x)/\w.frozen? ⟨g,u,none⟩=false
theorem CU8.below {w w':World} {g u:Nat} {x:ByteArray} (h:CU8 w g u x) (hb:Below w.heap.size w w'):CU8 w' g u x:=
 ⟨(hb.cell (p:=⟨g,u,none⟩) (cell_inC h.1)).trans h.1,(hb.frozen (p:=⟨g,u,none⟩) (cell_inC h.1)).trans h.2⟩
theorem CU8.alloc {w:World} {g u:Nat} {x:ByteArray} (h:CU8 w g u x) (o:Obj):CU8 (w.alloc o) g u x:=h.below ((Below.refl _ _).alloc (Nat.le_refl _) o)
set_option maxRecDepth 100000 in
set_option maxHeartbeats 2000000 in
theorem implCutUnits (s:Int) (t:ByteArray) (w:World) (hts:t.size<=1048576):Calls Tw.prog 19 #[.int .i64 s,.string t] w fun e w'=>TPost8 (cutX s t) w e w':=by
 obtain ⟨i0,hi0,hz0,hz1,hz2⟩:=info_parts infoTextG
 have HS:=Shut.mk (fun W=>implSch s W)
 unfold SchPost at HS
 have HG:=Shut.mk (fun W=>implSize s W)
 have hg32:=groupN_bounds s
 cases h:schOk s with
 | false =>
  have e0:cutX s t=([],false):=by unfold cutX;rw [if_neg (fun q=>by rw [h] at q;cases q.1)]
  unfold TPost8
  rw [e0]
  rw [h] at HS
  clear h e0 hg32
  generalize schK s=k at *
  generalize schM s=m at *
  go_enter Tw.func19,Tw.ntmps19
  go_wp2_with fail
  refine (HS.out _).mono ?_
  rintro e w1 ⟨rfl,rfl⟩
  go_wp2_with fail
  go_ret2
  exact ⟨_,rfl,⟨none,0,rfl,Nat.le_refl _,.inl rfl⟩,Below.refl _ _⟩
 | true =>
  rw [h] at HS
  obtain ⟨b1,b2,_,_⟩:=sch_bounds h
  by_cases hz:t.size<=groupN s
  ·have e0:cutX s t=(cutL (schK s) t t.size,true):=by unfold cutX;rw [if_pos ⟨h,hz⟩]
   have HCE:=Shut.mk (fun W=>twCells s t.size (by omega) h W)
   have hk3:schK s=2\/schK s=3\/schK s=4:=by omega
   unfold TPost8
   rw [e0]
   have hz':¬ (groupN s:Int)<(t.size:Int):=by omega
   have ht32:t.size<=32:=by omega
   clear h e0
   generalize schM s=m at *
   generalize schK s=k at *
   generalize groupN s=S at *
   go_enter Tw.func19,Tw.ntmps19
   go_wp2_with fail
   refine (HS.out _).mono ?_
   rintro e w1 ⟨rfl,rfl⟩
   go_wp2_with fail
   refine (HG.out _).mono ?_
   rintro e w2 ⟨rfl,rfl⟩
   go_wp2_with (at_make;refine wpList_make_full _ rfl _ _ 35 rfl w2.heap.size 9 i0 _ 1 Tw.underlying35 hi0 hz0 hz1 .i64 .i64 _ _ k rfl rfl (by omega) (by omega) ?b2 ?b3 ?b4 ?_)
   case b2=>rw [hz2];omega
   case b3=>unfold maxLen;omega
   case b4=>omega
   intro wm hownm hgrm
   have hbm:Below w2.heap.size w2 wm:=(Below.refl _ _).grown hgrm (Nat.le_refl _) (fun j hj=>by simp at hj)
   have hrow:WCells wm w2.heap.size (tv (cutL k t 0)):=by
    have h:=own_wcells hownm
    have e:(madeCells #[Value.string ⟨#[]⟩] k).toList=tv (cutL k t 0):=by rw [toList_madeCells_one,cutL_0];simp [tv]
    rw [e] at h
    exact h
   have HROW:=Shut.mk hrow
   have HBM:=Shut.mk hbm
   clear hownm hgrm hrow hbm
   go_wp2_with fail
   refine (HCE.out _).mono ?_
   rintro e w4 ⟨rfl,mm,hw4⟩
   have HC4:Shut (w4.heap[wm.heap.size]?=some (.chan 32 (cellsK k t.size 9 0).toArray true mm 0 false)):=⟨by rw [hw4];exact heap_alloc_new _ _⟩
   have HROW4:Shut (WCells w4 w2.heap.size (tv (cutL k t 0))):=⟨by rw [hw4];exact HROW.out.alloc _⟩
   have HBM4:Shut (Below w2.heap.size w2 w4):=⟨by rw [hw4];exact HBM.out.alloc HBM.out.size _⟩
   have HGC:Shut (w2.heap.size<=wm.heap.size):=⟨HBM.out.size⟩
   generalize wm.heap.size=gc at *
   clear hw4 HROW HBM HCE
   go_upto_region 6 with fail
   go_loopw [] (fun wr=>∃ (i f r:Nat),i % 4=0/\t.size<=i+4*f/\Shut (wr.heap[gc]?=some (.chan 32 (cellsK k t.size f i).toArray true mm r false))/\Shut (WCells wr w2.heap.size (tv (cutL k t (min i t.size))))/\Shut (Below w2.heap.size w2 wr)) (fun wr=>chLeft gc wr)
   case atStart=>exact ⟨0,9,0,rfl,by omega,HC4,by rw [Nat.zero_min];exact HROW4,HBM4⟩
   case round =>
    clear HC4 HROW4 HBM4
    obtain ⟨i,f,r,hi4,hfu,hch,hrow,hbo⟩:=hrel
    obtain ⟨wo,rfl⟩:∃ wo,wo=wr:=⟨_,rfl⟩
    refine wp_seq ?_
    have hne:w2.heap.size ≠ gc:=cell_not hrow.out (by rw [tv_len,cutL_len];omega) hch.out
    have hlc:=chan_lt hch.out
    by_cases hlt:i<t.size
    ·obtain ⟨f',hcs,hfu'⟩:=cellsK_more (k:=k) hfu hlt
     have hchv:=hch.out
     have hleft:=chLeft_is hch.out
     rw [hcs] at hchv hleft
     rw [Nat.min_eq_left (show i<=t.size by omega)] at hrow
     refine wp_take (slot:=31) (pair:=32) (flag:=33) (c:=gc) (twRc (by kernel_rfl) (by kernel_rfl) (by kernel_rfl)) (by rfl) (by simp) hchv ?_
     obtain ⟨wt,hwt⟩:∃ wt,wt=wo.setChan gc 32 (cellsK k t.size f' (i+4)).toArray true mm (r+1) false:=⟨_,rfl⟩
     rw [<-hwt]
     have HCT:Shut (wt.heap[gc]?=some (.chan 32 (cellsK k t.size f' (i+4)).toArray true mm (r+1) false)):=⟨by rw [hwt];exact Go.Conc.heap_setChan _ _ _ _ _ _ _ _ hlc⟩
     have HBT:Shut (Below w2.heap.size w2 wt):=⟨by rw [hwt];exact Go.Conc.below_setChan hbo.out HGC.out _ _ _ _ _ _⟩
     have HRT:Shut (WCells wt w2.heap.size (tv (cutL k t i))):=⟨by
      rw [hwt]
      refine ⟨by rw [Go.Conc.size_setChan];exact hrow.out.1,fun j v hj=>?_⟩
      have e:=Go.Proofs.YteaieagkjepgiaaGreatDoor.set_other (w:=wo) (c:=gc) (cap:=32) (buf:=(cellsK k t.size f' (i+4)).toArray) (cl:=true) (s:=mm) (r:=r+1) (tm:=false) hne
      have q:=hrow.out.2 j v hj
      simp only [World.cell?,World.frozen?,e] at q ⊢
      exact q⟩
     have HLE:Shut (chLeft gc wo=(cellsK k t.size f' (i+4)).length+1):=⟨by rw [hleft];simp⟩
     clear hwt hch hrow hbo hchv hleft hcs
     have hul:=unit_lt (show 0<k by omega) i
     obtain ⟨j,hj⟩:∃ j,j=min (i+4) t.size:=⟨_,rfl⟩
     have hst:(cutL k t i).set (unitAt k i) ((cutL k t i).getD (unitAt k i) ⟨#[]⟩++t.extract i j)=cutL k t j:=by
      have q:=cut_cell hk3 (t:=t) hi4 (j - i) (by omega) (by omega)
      rw [show i+(j - i)=j by omega] at q
      exact q
     have HCL:=Shut.mk (HRT.out.2 (unitAt k i) _ (tv_get _ (unitAt k i) (by rw [cutL_len];exact hul)))
     have HST:=Shut.mk (fun (w5:World) (hw5:WCells w5 w2.heap.size (tv (cutL k t i)))=>by
      have q:=hw5.set (unitAt k i) (.string ((cutL k t i).getD (unitAt k i) ⟨#[]⟩++t.extract i j)) (by rw [tv_len,cutL_len];exact hul)
      rw [tv_set,hst] at q
      exact q)
     have hxs:((cutL k t i).getD (unitAt k i) ⟨#[]⟩).size<=32:=by rw [cutL_at hul];exact Nat.le_trans (unitB_size k t i _) (by omega)
     have hys:(t.extract i j).size<=32:=by simp;omega
     clear hst
     rw [<-hj]
     generalize (cutL k t i).getD (unitAt k i) ⟨#[]⟩=x at *
     generalize unitAt k i=u at *
     generalize placeIn k i=pl at *
     have hij:i<=j:=by omega
     have hjn:j<=t.size:=by omega
     have u0:(0:Int)<=(u:Int):=by omega
     have u1:(u:Int)<(k:Int):=by omega
     have i0':(0:Int)<=(i:Int):=by omega
     have ij':(i:Int)<=(j:Int):=by omega
     have jn':(j:Int)<=(t.size:Int):=by omega
     have HJ:=Shut.mk hj
     have HFB:Shut (t.size<=i+4+4*f'):=⟨hfu'⟩
     clear hj hfu' hfu hlt hi0 hz0 hz1 hz2 hz' hz
     have hc4:=C4.new wt i j u pl 76
     have hcu:CU8 (wt.alloc (.cells #[.int .i64 (i:Nat),.int .i64 (j:Nat),.int .i64 (u:Nat),.int .i64 (pl:Nat)] 76)) w2.heap.size u x:=CU8.alloc HCL.out _
     have hbt:=HBT.out.size
     have hgl:w2.heap.size<wt.heap.size:=HRT.out.1
     have HC4:=Shut.mk hc4
     have HCU:=Shut.mk hcu
     clear HCL hc4 hcu
     unfold cellV
     go_wp2_with fail
     obtain ⟨wa,hwa⟩:∃ wa,wa=wt.alloc (.cells #[.int .i64 (i:Nat),.int .i64 (j:Nat),.int .i64 (u:Nat),.int .i64 (pl:Nat)] 76):=⟨_,rfl⟩
     rw [<-hwa] at HC4 HCU ⊢
     have HRA:Shut (WCells wa w2.heap.size (tv (cutL k t i))):=⟨by rw [hwa];exact (HRT.out.alloc _)⟩
     have HBA:Shut (Below w2.heap.size w2 wa):=⟨by rw [hwa];exact (HBT.out.alloc HBT.out.size _)⟩
     have HCA:Shut (wa.heap[gc]?=some (.chan 32 (cellsK k t.size f' (i+4)).toArray true mm (r+1) false)):=⟨by rw [hwa];exact chan_alloc HCT.out⟩
     clear hwa HRT HBT HCT hbt
     generalize wt.heap.size=gl at *
     have HGL:Shut (gl ≠ w2.heap.size):=⟨by omega⟩
     have yU:=HCU.out.1
     have hys':(t.extract i j).size=j - i:=by simp;omega
     obtain ⟨y0,y1,y2,y3⟩:=HC4.out
     have yF:=HCU.out.2
     go_region_with (first | (go_at_call 44;refine (twClone _ _ ?_).mono ?_;(show (t.extract i j).size<=281474976710656;omega);rintro e w6 ⟨rfl,hbA⟩;obtain ⟨yU6,yF6⟩:=CU8.below (w:=wa.drew) HCU.out hbA;obtain ⟨z0,z1,z2,z3⟩:=C4.below (w:=wa.drew) HC4.out hbA))
     all_goals
      have F1:Shut ((w6.setCell ⟨w2.heap.size,u,none⟩ (.string (x++t.extract i j))).heap[gc]?=some (.chan 32 (cellsK k t.size f' (i+4)).toArray true mm (r+1) false)):=⟨(Below.heap_setCell _ _ _ _ (fun e=>hne e.symm)).trans ((hbA.block gc (chan_lt HCA.out)).trans HCA.out)⟩
      have F2:Shut (WCells (w6.setCell ⟨w2.heap.size,u,none⟩ (.string (x++t.extract i j))) w2.heap.size (tv (cutL k t (min (i+4) t.size)))):=⟨by rw [<-HJ.out];exact HST.out _ (WCells.grow (w:=wa.drew) HRA.out.drawn hbA)⟩
      have F3:Shut (Below w2.heap.size w2 (w6.setCell ⟨w2.heap.size,u,none⟩ (.string (x++t.extract i j)))):=⟨((Below.drew HBA.out).trans (hbA.mono (Below.drew HBA.out).size)).setCell (p:=⟨w2.heap.size,u,none⟩) (Nat.le_refl _) _⟩
      clear hbA
      go_wp2_with fail
      exact ⟨⟨i+4,f',r+1,by omega,HFB.out,F1,F2,F3⟩,by rw [chLeft_is F1.out,HLE.out];simp⟩
    ·have e0:cellsK k t.size f i=[]:=cellsK_none (by omega) f
     have hchv:=hch.out
     rw [e0] at hchv
     rw [Nat.min_eq_right (show t.size<=i by omega)] at hrow
     refine wp_shut (slot:=31) (pair:=32) (flag:=33) (c:=gc) (twRc (by kernel_rfl) (by kernel_rfl) (by kernel_rfl)) (by rfl) (by simp) hchv ?_
     have HF:Shut (SAns wo (.slice (some ⟨w2.heap.size,0,none⟩) k k) (cutL k t t.size) w2.heap.size wo.heap.size):=⟨⟨_,k,by rw [cutL_len],by rw [cutL_len];exact Nat.le_refl _,.inr ⟨_,rfl,Nat.le_refl _,hrow.out.1,hrow.out⟩⟩⟩
     clear hrow hch hchv e0
     go_wp2_with fail
     go_ret2
     exact ⟨_,rfl,HF.out,hbo.out⟩
  ·have e0:cutX s t=([],false):=by unfold cutX;rw [if_neg (fun q=>hz q.2)]
   unfold TPost8
   rw [e0]
   have hz':(groupN s:Int)<(t.size:Int):=by omega
   clear h e0 hz
   generalize schK s=k at *
   generalize schM s=m at *
   generalize groupN s=S at *
   go_enter Tw.func19,Tw.ntmps19
   go_wp2_with fail
   refine (HS.out _).mono ?_
   rintro e w1 ⟨rfl,rfl⟩
   go_wp2_with fail
   refine (HG.out _).mono ?_
   rintro e w2 ⟨rfl,rfl⟩
   go_wp2_with fail
   go_ret2
   exact ⟨_,rfl,⟨none,0,rfl,Nat.le_refl _,.inl rfl⟩,Below.refl _ _⟩
end Go.Proofs.YteaieagkjepgiaaGreatDoorT
/- . -/
namespace Go.Proofs.YteaieagkjepgiaaGreatDoorT
set_option maxRecDepth 100000
open Go.RowKit BigFrame
attribute [local go_sem ↓] Go.wp_at_zero Go.wp_at_succ
def PoPost (P:HM) (ok:Bool) (g o:Nat) (w:World) (e:Ending) (w':World):Prop:=∃ wc a8 c8,e = .returned (.bool ok)/\Below w.heap.size w wc/\FRw wc a8 (unS P.us) w.heap.size wc.heap.size/\P.us.length<=c8/\w'=if ok then setW wc g o (hC ⟨P,a8,c8⟩) else wc
set_option maxRecDepth 100000 in
set_option maxHeartbeats 4000000 in
theorem implPutOn (g o:Nat) (r:HoR) (u:UnM) (P:HM) (pok:Bool) (w:World) (htab:SumTab w) (hc:∀ W,Below w.heap.size w W->(W.cell? ⟨g,o,none⟩=some (.int .i64 r.h.id)/\W.frozen? ⟨g,o,none⟩=false)/\(W.cell? ⟨g,o+1,none⟩=some (.bool r.h.up)/\W.frozen? ⟨g,o+1,none⟩=false)/\(W.cell? ⟨g,o+2,none⟩=some (.slice r.loc r.h.us.length r.cap)/\W.frozen? ⟨g,o+2,none⟩=false)) (hg:g<w.heap.size)
  (hr:UnRow w r.loc r.h.us) (hcn:r.h.us.length<=r.cap) (hl:r.h.us.length<=1400000) (hz:∀ x ∈ r.h.us,x.text.size<=1048576) (hut:u.text.size<=1048576) (hP:putX r.h u=(P,pok)) :
  Calls Tw.prog 23 #[.pointer (some ⟨g,o,none⟩),unv u] w fun e w'=>PoPost P pok g o w e w':=by
 have HPU:Shut (∀ x,Below w.heap.size w x->Calls Tw.prog 53 #[hov r.h r.loc r.cap,unv u] x fun e w'=>HbPost (P,pok) x e w'):=⟨fun x hx=>by rw [<-hP];exact implPutUnitL r.h r.loc r.cap u x (htab.stays hx) (hr.stays hx) hcn hl hz hut⟩
 have HCE:=Shut.mk hc
 clear hr hz hcn hl hP htab hc hut
 obtain ⟨⟨rid,rup,rus⟩,rl,rc⟩:=r
 obtain ⟨ug,ui,ut,us0⟩:=u
 obtain ⟨pid,pup,pus⟩:=P
 unfold HbPost at HPU
 dsimp only [hov,unv] at *
 obtain ⟨rn,hrn⟩:∃ q,q=rus.length:=⟨_,rfl⟩
 obtain ⟨pn,hpn⟩:∃ q,q=pus.length:=⟨_,rfl⟩
 rw [<-hrn] at HPU HCE
 rw [<-hpn] at HPU
 have HPN:=Shut.mk hpn
 clear hrn hpn
 have HS0:=Shut.mk ((SL.start w).new #[.int .i64 ug,.int .i64 ui,.string ut,.int .i64 us0] 49)
 obtain ⟨ub,hub⟩:∃ q,q=w.heap.size:=⟨_,rfl⟩
 go_enter Tw.func23,Tw.ntmps23
 go_upto_region 1 with fail
 rw [<-hub] at HS0 ⊢
 refine wp_shade (fun W=>SL w W [bxS ub [.int .i64 ug,.int .i64 ui,.string ut,.int .i64 us0]]) HS0.out ?_
 intro W0 hW
 have H:=Shut.mk hW
 clear HS0 hW hub
 go_cut [5,6] from 7 to 14 (fun u8 u9 wq=>∃ (nb:Nat) (a8:Option Addr) (c8 lo hi:Nat),u8 = .pointer (some ⟨nb,0,none⟩)/\u9 = .bool pok/\Shut (SL w wq [bxS nb [.int .i64 pid,.bool pup,.slice a8 pn c8],rwS a8 (unS pus) lo hi])/\pn<=c8)
 case first =>
  have HTX:Shut (∀ x,Later W0.drew x->SL w x [bxS ub [.int .i64 ug,.int .i64 ui,.string ut,.int .i64 us0]]):=⟨fun x hx=>H.out.below (Below.trans (Below.drew (Below.refl _ _)) hx)⟩
  have HLE:Shut (∀ x,Later W0.drew x->x.cell? ⟨g,o,none⟩=some (.int .i64 rid)/\x.cell? ⟨g,o+1,none⟩=some (.bool rup)/\x.cell? ⟨g,o+2,none⟩=some (.slice rl rn rc)/\x.cell? ⟨ub,0,none⟩=some (.int .i64 ug)/\x.cell? ⟨ub,1,none⟩=some (.int .i64 ui)/\x.cell? ⟨ub,2,none⟩=some (.string ut)/\x.cell? ⟨ub,3,none⟩=some (.int .i64 us0)):=⟨fun x hx=>by
   obtain ⟨⟨q0,_⟩,⟨q1,_⟩,⟨q2,_⟩⟩:=HCE.out x (HTX.out x hx).bel
   exact ⟨q0,q1,q2,((HTX.out x hx).bx 0 rfl 0 _ rfl).1,((HTX.out x hx).bx 0 rfl 1 _ rfl).1,((HTX.out x hx).bx 0 rfl 2 _ rfl).1,((HTX.out x hx).bx 0 rfl 3 _ rfl).1⟩⟩
  clear H
  refine wp_region_set (fun j=>decide (j=5\/j=6\/j=7\/8<j)) (by kernel_rfl) ?_
  refine wpD_val (i:=0) (v:=?vr0) rfl (by kernel_rfl) (by kernel_rfl) (by kernel_rfl) (by kernel_rfl) (fun _ _ _ h=>h) (by rfl) ?hyr0 ?restr0
  case hyr0=>(intro x hx;obtain ⟨d0,d1,d2,d3,d4,d5,d6⟩:=HLE.out x hx;go_simp;try with_reducible rfl)
  try simp only [Act.put,List.setIfInBounds_toArray,List.set_cons_zero,List.set_cons_succ]
  refine wpD_val (i:=1) (v:=?vr1) rfl (by kernel_rfl) (by kernel_rfl) (by kernel_rfl) (by kernel_rfl) (fun _ _ _ h=>h) (by rfl) ?hyr1 ?restr1
  case hyr1=>(intro x hx;obtain ⟨d0,d1,d2,d3,d4,d5,d6⟩:=HLE.out x hx;go_simp;try with_reducible rfl)
  try simp only [Act.put,List.setIfInBounds_toArray,List.set_cons_zero,List.set_cons_succ]
  refine wpD_val (i:=2) (v:=?vr2) rfl (by kernel_rfl) (by kernel_rfl) (by kernel_rfl) (by kernel_rfl) (fun _ _ _ h=>h) (by rfl) ?hyr2 ?restr2
  case hyr2=>(intro x hx;obtain ⟨d0,d1,d2,d3,d4,d5,d6⟩:=HLE.out x hx;go_simp;try with_reducible rfl)
  try simp only [Act.put,List.setIfInBounds_toArray,List.set_cons_zero,List.set_cons_succ]
  refine wpD_val (i:=3) (v:=?vr3) rfl (by kernel_rfl) (by kernel_rfl) (by kernel_rfl) (by kernel_rfl) (fun _ _ _ h=>h) (by rfl) ?hyr3 ?restr3
  case hyr3=>(intro x hx;obtain ⟨d0,d1,d2,d3,d4,d5,d6⟩:=HLE.out x hx;go_simp;try with_reducible rfl)
  try simp only [Act.put,List.setIfInBounds_toArray,List.set_cons_zero,List.set_cons_succ]
  refine wpD_callbox (f:=53) (args:=#[.agg #[.int .i64 rid,.bool rup,.slice rl rn rc],.agg #[.int .i64 ug,.int .i64 ui,.string ut,.int .i64 us0]]) (C:=#[.int .i64 0,.bool false,.slice none 0 0]) (t:=45) (i:=4) (j:=8) (by kernel_rfl) rfl rfl (by rfl) (by rfl) (fun x hx=>by go_simp) (fun x hx=>by kernel_rfl) (fun x hx=>(HPU.out x (HTX.out x hx).bel).mono ?_) (fun x hx=>?_)
  ·rintro e y2 ⟨a8,c8,rfl,hF,hc8,hb2⟩
   refine ⟨_,rfl,hb2,?_⟩
   have HY:=Shut.mk ((HTX.out x hx).tail.add (s:=rwS a8 (unS pus) _ _) hb2 hF (rwS.loc _ _ _ _) (Nat.le_refl _) (Nat.le_refl _))
   clear hF hb2 hx
   try simp only [Act.put,List.setIfInBounds_toArray,List.set_cons_zero,List.set_cons_succ]
   refine wpD_pure (i:=5) (v:=?va5) rfl (by kernel_rfl) (by kernel_rfl) (by kernel_rfl) (by kernel_rfl) (fun _ _ _ h=>h) (by rfl) ?hya5 ?resta5
   case hya5=>(intro x;go_simp;try with_reducible rfl)
   try simp only [Act.put,List.setIfInBounds_toArray,List.set_cons_zero,List.set_cons_succ]
   refine wpD_pure (i:=6) (v:=?va6) rfl (by kernel_rfl) (by kernel_rfl) (by kernel_rfl) (by kernel_rfl) (fun _ _ _ h=>h) (by rfl) ?hya6 ?resta6
   case hya6=>(intro x;go_simp;try with_reducible rfl)
   try simp only [Act.put,List.setIfInBounds_toArray,List.set_cons_zero,List.set_cons_succ]
   refine wpD_pure (i:=7) (v:=?va7) rfl (by kernel_rfl) (by kernel_rfl) (by kernel_rfl) (by kernel_rfl) (fun _ _ _ h=>h) (by rfl) ?hya7 ?resta7
   case hya7=>(intro x;go_simp;try with_reducible rfl)
   try simp only [Act.put,List.setIfInBounds_toArray,List.set_cons_zero,List.set_cons_succ]
   refine wpD_one (i:=8) (by kernel_rfl) rfl (by rfl) (fun x2 hx2=>⟨.pointer (some ⟨x2.heap.size,0,none⟩),x2.alloc (.cells #[.int .i64 0,.bool false,.slice none 0 0] 45),by kernel_rfl,(Below.refl _ _).alloc (Nat.le_refl _) _,?_⟩)
   have HY2:=Shut.mk ((HY.out.below hx2).new #[.int .i64 0,.bool false,.slice none 0 0] 45)
   obtain ⟨nb,hnb⟩:∃ nb,nb=x2.heap.size:=⟨_,rfl⟩
   rw [<-hnb] at HY2 ⊢
   clear hx2 hnb HY
   try simp only [Act.put,List.setIfInBounds_toArray,List.set_cons_zero,List.set_cons_succ]
   refine wpD_tail (by kernel_rfl) ?_
   intro x5 hx5
   have HY3:=Shut.mk (HY2.out.below hx5)
   obtain ⟨q0,qf0⟩:=HY3.out.bx 0 rfl 0 _ rfl
   obtain ⟨q1,qf1⟩:=HY3.out.bx 0 rfl 1 _ rfl
   obtain ⟨q2,qf2⟩:=HY3.out.bx 0 rfl 2 _ rfl
   refine wpA_step (y:=((x5.setCell ⟨nb,0,none⟩ (.int .i64 pid)).setCell ⟨nb,1,none⟩ (.bool pup)).setCell ⟨nb,2,none⟩ (.slice a8 pn c8)) (i:=9) (by kernel_rfl) rfl (by rfl) (by go_simp) ?_
   have HZ:=Shut.mk (((HY3.out.put 0 rfl 0 (.int .i64 pid) (by simp)).put 0 rfl 1 (.bool pup) (by simp)).put 0 rfl 2 (.slice a8 pn c8) (by simp))
   clear q0 qf0 q1 qf1 q2 qf2 hx5 HY2 HY3
   simp only [List.set_cons_zero,List.set_cons_succ] at HZ
   simp only [Act.put]
   refine wpA_val (i:=10) (v:=.bool pok) rfl (by kernel_rfl) (by kernel_rfl) (by kernel_rfl) (fun _ _ _ h=>h) (by rfl) (fun x=>by go_simp) ?_
   try simp only [Act.put,List.setIfInBounds_toArray,List.set_cons_zero,List.set_cons_succ]
   refine wpA_done (by kernel_rfl) ?_ _
   go_wp2_with fail
   go_meet
   case rel=>exact ⟨nb,a8,c8,_,_,rfl,rfl,⟨HZ.out⟩,hc8⟩
  ·have HW:=Shut.mk ((HTX.out x hx).tail.new #[.int .i64 0,.bool false,.slice none 0 0] 45)
   have HWX:=Shut.mk ((HTX.out x hx).below ((Below.refl x.heap.size x).alloc (Nat.le_refl _) (.cells #[.int .i64 0,.bool false,.slice none 0 0] 45)))
   obtain ⟨nb,hnb⟩:∃ nb,nb=x.heap.size:=⟨_,rfl⟩
   rw [<-hnb] at HW ⊢
   generalize x.alloc (.cells #[.int .i64 0,.bool false,.slice none 0 0] 45)=xx at HW HWX ⊢
   clear hnb hx
   try simp only [Act.put,List.setIfInBounds_toArray,List.set_cons_zero,List.set_cons_succ]
   refine wpD_onecall (f:=53) (args:=#[.agg #[.int .i64 rid,.bool rup,.slice rl rn rc],.agg #[.int .i64 ug,.int .i64 ui,.string ut,.int .i64 us0]]) (i:=4) (by kernel_rfl) rfl (by rfl) (fun x hx=>by go_simp) (fun x hx=>(HPU.out x (HW.out.below hx).bel).mono ?_)
   rintro e y2 ⟨a8,c8,rfl,hF,hc8,hb2⟩
   refine ⟨_,rfl,hb2,?_⟩
   have HY2:=Shut.mk ((HW.out.below hx).add (s:=rwS a8 (unS pus) _ _) hb2 hF (rwS.loc _ _ _ _) (Nat.le_refl _) (Nat.le_refl _))
   clear hF hb2 hx HW HWX
   try simp only [Act.put,List.setIfInBounds_toArray,List.set_cons_zero,List.set_cons_succ]
   refine wpD_pure (i:=5) (v:=?vb5) rfl (by kernel_rfl) (by kernel_rfl) (by kernel_rfl) (by kernel_rfl) (fun _ _ _ h=>h) (by rfl) ?hyb5 ?restb5
   case hyb5=>(intro x;go_simp;try with_reducible rfl)
   try simp only [Act.put,List.setIfInBounds_toArray,List.set_cons_zero,List.set_cons_succ]
   refine wpD_pure (i:=6) (v:=?vb6) rfl (by kernel_rfl) (by kernel_rfl) (by kernel_rfl) (by kernel_rfl) (fun _ _ _ h=>h) (by rfl) ?hyb6 ?restb6
   case hyb6=>(intro x;go_simp;try with_reducible rfl)
   try simp only [Act.put,List.setIfInBounds_toArray,List.set_cons_zero,List.set_cons_succ]
   refine wpD_pure (i:=7) (v:=?vb7) rfl (by kernel_rfl) (by kernel_rfl) (by kernel_rfl) (by kernel_rfl) (fun _ _ _ h=>h) (by rfl) ?hyb7 ?restb7
   case hyb7=>(intro x;go_simp;try with_reducible rfl)
   try simp only [Act.put,List.setIfInBounds_toArray,List.set_cons_zero,List.set_cons_succ]
   refine wpD_tail (by kernel_rfl) ?_
   intro x5 hx5
   have HY3:=Shut.mk (HY2.out.below hx5)
   obtain ⟨q0,qf0⟩:=HY3.out.bx 1 rfl 0 _ rfl
   obtain ⟨q1,qf1⟩:=HY3.out.bx 1 rfl 1 _ rfl
   obtain ⟨q2,qf2⟩:=HY3.out.bx 1 rfl 2 _ rfl
   refine wpA_step (y:=((x5.setCell ⟨nb,0,none⟩ (.int .i64 pid)).setCell ⟨nb,1,none⟩ (.bool pup)).setCell ⟨nb,2,none⟩ (.slice a8 pn c8)) (i:=9) (by kernel_rfl) rfl (by rfl) (by go_simp) ?_
   have HZ:=Shut.mk (((HY3.out.put 1 rfl 0 (.int .i64 pid) (by simp)).put 1 rfl 1 (.bool pup) (by simp)).put 1 rfl 2 (.slice a8 pn c8) (by simp))
   clear q0 qf0 q1 qf1 q2 qf2 hx5 HY2 HY3
   simp only [List.set_cons_zero,List.set_cons_succ] at HZ
   simp only [Act.put]
   refine wpA_val (i:=10) (v:=.bool pok) rfl (by kernel_rfl) (by kernel_rfl) (by kernel_rfl) (fun _ _ _ h=>h) (by rfl) (fun x=>by go_simp) ?_
   try simp only [Act.put,List.setIfInBounds_toArray,List.set_cons_zero,List.set_cons_succ]
   refine wpA_done (by kernel_rfl) ?_ _
   go_wp2_with fail
   go_meet
   case rel=>exact ⟨nb,a8,c8,_,_,rfl,rfl,⟨HZ.out.swap⟩,hc8⟩
 case rest =>
  obtain ⟨nb,a8,c8,lo,hi,rfl,rfl,HS,hc8⟩:=hcut
  have hrw:=HS.out.is _ (List.mem_of_getElem? (show _[1]?=some (rwS a8 (unS pus) lo hi) from rfl))
  have HF:=Shut.mk (frw_wide (show FRw _ _ (unS pus) lo hi from hrw.1) hrw.2.2.1 hrw.2.2.2)
  clear hrw
  cases pok with
  | false =>
   go_wp2_with fail
   go_ret
   exact ⟨_,a8,c8,rfl,HS.out.bel,HF.out,by rw [<-HPN.out];exact hc8,rfl⟩
  | true =>
   obtain ⟨x0,_⟩:=HS.out.bx 0 rfl 0 _ rfl
   obtain ⟨x1,_⟩:=HS.out.bx 0 rfl 1 _ rfl
   obtain ⟨x2,_⟩:=HS.out.bx 0 rfl 2 _ rfl
   obtain ⟨⟨y0,z0⟩,⟨y1,z1⟩,⟨y2,z2⟩⟩:=HCE.out _ HS.out.bel
   go_wp2_with fail
   go_ret
   exact ⟨_,a8,c8,rfl,HS.out.bel,HF.out,by rw [<-HPN.out];exact hc8,by rw [if_pos rfl];unfold hC;dsimp only;rw [setW3,<-HPN.out]⟩
set_option maxRecDepth 100000 in
set_option maxHeartbeats 8000000 in
theorem implWriteGroup (a:Option Addr) (rs:List HoR) (cap:Nat) (s grp:Int) (t:ByteArray) (w:World) (htab:SumTab w) (hr:HsRow w a rs) (hl:rs.length<=1048576) (hf:HsFits (hms rs)) (hz:hsSum (hms rs)<=1048576) (ht:t.size<=1048576) (hgb:-9223372036854775808<=grp/\grp<=9223372036854775807) :
  Calls Tw.prog 7 #[.slice a rs.length cap,.int .i64 s,.int .i64 grp,.string t] w fun e w'=>WgPost (writeX (hms rs) s grp t) w e w':=by
 have HPO:=Shut.mk (fun (ts:List ByteArray) (ids:List Int) (h1:∀ x ∈ ts,x.size<=200) (h2:∀ x ∈ ids,∃ y ∈ hms rs,y.id=x) (h3:ids.length<=6) (i:Nat) (cur:List HM) (h4:i<=ids.length) (h5:putAll (hms rs) grp ts ids i=some cur)=>putAll_ok hf hz hgb h1 h2 h3 i cur h4 h5)
 have HTAB:=Shut.mk (fun (W:World) (hW:Below w.heap.size w W)=>htab.stays hW)
 have HCU:=Shut.mk (fun W=>implCutUnits s t W ht)
 have HEN:Shut (∀ (W:World) (u:Value) (lo hi:Nat),SSee W u (cutX s t).1 lo hi->Calls Tw.prog 20 #[.int .i64 s,u] W fun e w'=>TPost (encX s (cutX s t).1) W e w'):=⟨fun W u lo hi hu=>implEncode W u _ lo hi s hu (cut_fit9 s t)⟩
 have HEL:=Shut.mk (enc_len9 s (cutX s t).1)
 have HES:=Shut.mk (enc_size9 s (cutX s t).1)
 obtain ⟨R,hR⟩:∃ R,R=writeX (hms rs) s grp t:=⟨_,rfl⟩
 rw [<-hR]
 unfold writeX at hR
 generalize encX s (cutX s t).1=EN at *
 obtain ⟨all,okE⟩:=EN
 have HPG:Shut (∀ W,Below w.heap.size w W->Calls Tw.prog 21 #[.slice a rs.length cap,.int .i64 (all.length:Nat)] W fun e w'=>PlcPost (plcX (hms rs) (all.length:Nat)) W e w'):=⟨fun W hW=>implPlaceGroup a rs cap _ W (hr.stays hW) hl hz (by have:=HEL.out;dsimp only at this;omega)⟩
 have HPM:Shut (∀ x ∈ (plcX (hms rs) (all.length:Nat)).1,∃ y ∈ hms rs,y.id=x):=⟨fun x hx=>plc_mem9 hx⟩
 have HPLen:Shut ((plcX (hms rs) (all.length:Nat)).1.length<=all.length):=⟨plc_few⟩
 have HCP:Shut (∀ W,Below w.heap.size w W->Calls Tw.prog 22 #[.slice a rs.length cap] W fun e w'=>HsPost (hms rs) W e w'):=⟨fun W hW=>implCopyHosts a rs cap W (hr.stays hW) hl (fun r hr'=>by have:=hsSum_mem (hs:=hms rs) (h:=r.h) (List.mem_map_of_mem hr');omega) (fun r hr' u hu=>by have:=hsSum_mem (hs:=hms rs) (h:=r.h) (List.mem_map_of_mem hr');have:=unSum_mem hu;omega)⟩
 generalize cutX s t=CU at *
 obtain ⟨uts,okC⟩:=CU
 generalize plcX (hms rs) (all.length:Nat)=PG at *
 obtain ⟨ids,okP⟩:=PG
 unfold TPost8 at HCU
 unfold TPost at HEN
 unfold PlcPost at HPG
 dsimp only at *
 have HHL:Shut ((hms rs).length=rs.length):=⟨hms_len rs⟩
 generalize hms rs=hs at *
 obtain ⟨n,hn⟩:∃ n,n=rs.length:=⟨_,rfl⟩
 rw [<-hn] at HPG HCP HHL hl ⊢
 have HQ:=Shut.mk hR
 clear hr hf hz hR hn htab
 go_enter Tw.func7,Tw.ntmps7
 go_upto_region 2 with (go_at_call 19;refine (HCU.out _).mono ?_;rintro e w1 ⟨v1,rfl,hA,hb⟩;have HA1:=Shut.mk hA.see;have HB1:=Shut.mk hb;clear hA hb)
 go_upto_region 3 with (go_at_call 20;refine (HEN.out _ _ _ _ HA1.out).mono ?_;rintro e w2 ⟨v2,rfl,hA,hb⟩;have HA2:=Shut.mk hA;have HB2:=Shut.mk (HB1.out.trans (hb.mono HB1.out.size));have hs1:=HB1.out.size;clear hA hb HA1 HB1)
 obtain ⟨at2,ct2,rfl,hct2,hrow2⟩:=HA2.out
 have HT2:=Shut.mk (show SSee w2 (.slice at2 all.length ct2) all w.heap.size w2.heap.size from (show SAns w2 (.slice at2 all.length ct2) all w.heap.size w2.heap.size from ⟨at2,ct2,rfl,hct2,hrow2.imp id fun ⟨g,e,q1,q2,q3⟩=>⟨g,e,by omega,q2,q3⟩⟩).see)
 clear hct2 hrow2 HA2 hs1
 obtain ⟨na,hna⟩:∃ q,q=all.length:=⟨_,rfl⟩
 rw [<-hna] at HPG ⊢
 rw [<-hna] at HEL HPLen
 have hna6:na<=6:=HEL.out
 have HNA:=Shut.mk hna
 clear hna
 go_upto_region 4 with (go_at_call 21;refine (HPG.out _ HB2.out).mono ?_;rintro e w3 ⟨v3,rfl,hown,hb⟩;have HI3:=Shut.mk hown;have HB3:=Shut.mk (HB2.out.trans (hb.mono HB2.out.size));have HT3:=Shut.mk (HT2.out.below hb);clear hown hb HT2)
 obtain ⟨ai,ci,rfl⟩:=own_any3w HI3.out
 obtain ⟨ni,hni⟩:∃ q,q=ids.length:=⟨_,rfl⟩
 have hni6:ni<=na:=by rw [hni];exact HPLen.out
 have HID:Shut (CRow w3 ai (iv ids)):=⟨(FRw.of_own HI3.out).1.crow⟩
 have HNI:=Shut.mk (And.intro hni HNA.out)
 rw [<-hni] at HQ ⊢
 clear hni HI3 HEL HPLen
 cases okE with
 | false =>
  have HF:Shut (R=(hs,false)):=⟨by rw [HQ.out,if_neg (fun q=>by cases q.1)]⟩
  go_wp2_with (go_at_call 22;refine (HCP.out _ HB3.out).mono ?_;rintro e w9 hpost;obtain ⟨a9,c9,gs9,rfl,hm9,hc9,hwg⟩:=wr_of hpost;have hl9:gs9.length=n:=(by rw [<-hms_len,hm9];exact HHL.out);have H9:=Shut.mk hwg;have HC9:=Shut.mk (And.intro hm9 (And.intro hl9 hc9));rw [hl9];clear hpost hwg hm9 hc9 hl9)
  go_ret2
  exact ⟨a9,c9,gs9,by rw [HF.out,HC9.out.2.1];rfl,by rw [HF.out];exact HC9.out.1,HC9.out.2.2,H9.out.base HB3.out⟩
 | true =>
 cases okP with
 | false =>
  have HF:Shut (R=(hs,false)):=⟨by rw [HQ.out,if_neg (fun q=>by cases q.2)]⟩
  go_wp2_with (go_at_call 22;refine (HCP.out _ HB3.out).mono ?_;rintro e w9 hpost;obtain ⟨a9,c9,gs9,rfl,hm9,hc9,hwg⟩:=wr_of hpost;have hl9:gs9.length=n:=(by rw [<-hms_len,hm9];exact HHL.out);have H9:=Shut.mk hwg;have HC9:=Shut.mk (And.intro hm9 (And.intro hl9 hc9));rw [hl9];clear hpost hwg hm9 hc9 hl9)
  go_ret2
  exact ⟨a9,c9,gs9,by rw [HF.out,HC9.out.2.1];rfl,by rw [HF.out];exact HC9.out.1,HC9.out.2.2,H9.out.base HB3.out⟩
 | true =>
 replace HQ:Shut (R=wgEnd hs (putAll hs grp all ids ni)):=⟨by rw [HQ.out,if_pos ⟨rfl,rfl⟩]⟩
 go_upto_region 7 with (go_at_call 22;refine (HCP.out _ HB3.out).mono ?_;rintro e w9 hpost;obtain ⟨a9,c9,gs9,rfl,hm9,hc9,hwg⟩:=wr_of hpost;have hl9:gs9.length=n:=(by rw [<-hms_len,hm9];exact HHL.out);have H9:=Shut.mk hwg;have HC9:=Shut.mk (And.intro hm9 (And.intro hl9 hc9));rw [hl9];clear hpost hwg hm9 hc9 hl9)
 go_upto_region 8 with fail
 go_loopw [51] (fun i9 wr=>∃ (i:Nat),i9 = .int .i64 (i:Nat)/\i<=ni/\Shut (∃ gs,WgSt hs grp all ids n i w3 wr a9 gs)) (fun i9 _=>ni - (intOf i9).toNat)
 case atStart=>exact ⟨0,rfl,Nat.zero_le _,⟨gs9,by show some hs=_;rw [HC9.out.1],HC9.out.2.1,H9.out⟩⟩
 case round =>
  clear H9
  obtain ⟨i,rfl,hi,HW⟩:=hrel
  obtain ⟨gs,hwg⟩:=HW.out
  have HG:=Shut.mk hwg
  clear HW hwg
  by_cases hlt:i<ni
  case neg =>
   obtain rfl:ni=i:=by omega
   have HF:Shut (R=(hms gs,true)):=⟨by rw [HQ.out,HG.out.is,wgEnd_some]⟩
   go_wp2_with fail
   go_ret2
   exact ⟨a9,c9,gs,by rw [HF.out,HG.out.len];rfl,by rw [HF.out],by have:=HC9.out.2.2;have:=HC9.out.2.1;have:=HG.out.len;omega,HG.out.wr.base HB3.out⟩
  have hii:i<ids.length:=by rw [<-HNI.out.1];exact hlt
  have hia:i<all.length:=by rw [<-HNI.out.2];omega
  have hok:=HPO.out all ids HES.out HPM.out (by rw [<-HNI.out.1];omega) i (hms gs) (by omega) HG.out.is
  obtain ⟨x9,hx9⟩:∃ x,x=ids.getD i 0:=⟨_,rfl⟩
  have hxi:x9=ids[i]:=by rw [hx9,List.getD,List.getElem?_eq_getElem hii];rfl
  obtain ⟨k,hk⟩:∃ k,fstI hs x9=k:=⟨_,rfl⟩
  have hkg:k<gs.length:=by
   rw [<-hms_len,hok.len,<-hk]
   exact fst_lt (HPM.out x9 (by rw [hxi];exact List.getElem_mem hii))
  obtain ⟨bi,oi,rfl,lbi,hci⟩:=(HID.out.stays HG.out.wr.bel) (by rw [iv_len9w];omega)
  have d9:=hci i (.int .i64 x9) (by rw [hxi];simp [iv,hii])
  obtain ⟨bt,ot,rfl,lbt,hct⟩:∃ b off,at2=some ⟨b,off,none⟩/\b<w3.heap.size/\∀ j v,(tv all)[j]?=some v->w3.cell? ⟨b,off+j,none⟩=some v:=by
   obtain ⟨a9,c9',e9,hrow9⟩:=HT3.out
   cases e9
   exact hrow9.crow (by rw [tv_len];omega)
  obtain ⟨tx,htx⟩:∃ q,q=all.getD i ⟨#[]⟩:=⟨_,rfl⟩
  have dt:=((HG.out.wr.bel).cell (p:=⟨bt,ot+i,none⟩) lbt).trans (hct i _ (tv_get all i hia))
  obtain ⟨g9,rfl⟩:∃ g,a9=some ⟨g,0,none⟩:=by
   rcases HG.out.wr.row.2 with ⟨_,e⟩ | ⟨g,e,_⟩
   ·rw [e] at hkg;simp at hkg
   ·exact ⟨g,e⟩
  obtain ⟨b1,o1,r,e1,hre,lb1,hc1⟩:=hs_at HG.out.wr.row.row (Below.refl _ _) hkg
  simp only [Option.some.injEq,Addr.mk.injEq,and_true] at e1
  obtain ⟨rfl,rfl⟩:=e1
  have htm:tx ∈ all:=by rw [htx];simp [List.getD,hia]
  have hts:tx.size<=200:=HES.out tx htm
  rw [<-htx] at dt
  have hrm:r.h ∈ hms gs:=by rw [hre];exact List.mem_map_of_mem (List.getElem_mem hkg)
  have hrf:=hok.fit _ hrm
  have hrc:r.h.us.length<=r.cap:=by rw [hre];exact HG.out.wr.row.1 _ (List.getElem_mem hkg)
  have hgi:(hms gs)[k]?=some r.h:=by rw [hre];simp [hms,hkg]
  have huw:uW grp all i=⟨grp,(i:Nat),tx,0⟩:=by unfold uW;rw [htx]
  have HWO:Shut (∀ x,Below wr.heap.size wr x->(x.cell? ⟨g9,0+k*3,none⟩=some (.int .i64 r.h.id)/\x.frozen? ⟨g9,0+k*3,none⟩=false)/\(x.cell? ⟨g9,0+k*3+1,none⟩=some (.bool r.h.up)/\x.frozen? ⟨g9,0+k*3+1,none⟩=false)/\(x.cell? ⟨g9,0+k*3+2,none⟩=some (.slice r.loc r.h.us.length r.cap)/\x.frozen? ⟨g9,0+k*3+2,none⟩=false)):=⟨fun x hx=>by
   rcases (HG.out.wr.below hx).row.2 with ⟨e,_⟩ | ⟨g,e,hg⟩
   ·cases e
   ·simp only [Option.some.injEq,Addr.mk.injEq,and_true] at e
    subst e
    have hwo:=hg.out
    rw [Nat.zero_add,hre]
    exact ⟨hwo.2 (k*3) _ (flat_get hC_len gs k hkg 0 (by omega)),hwo.2 (k*3+1) _ (flat_get hC_len gs k hkg 1 (by omega)),hwo.2 (k*3+2) _ (flat_get hC_len gs k hkg 2 (by omega))⟩⟩
  have hg9:g9<wr.heap.size:=lb1
  have HYS:=Shut.mk (fun P hp=>putAll_yes (P:=P) HG.out.is (by rw [<-hx9];exact hk) hgi (by rw [huw];exact hp))
  have HNO:=Shut.mk (fun P hp=>putAll_no (P:=P) HG.out.is (by rw [<-hx9];exact hk) hgi (by rw [huw];exact hp))
  have HHO:Shut (∀ x,Below wr.heap.size wr x->Calls Tw.prog 24 #[.slice (some ⟨g9,0,none⟩) n c9,.int .i64 x9] x fun e w'=>e = .returned (.pointer (some ⟨g9,0+k*3,none⟩))/\Below x.heap.size x w'):=⟨fun x hx=>implFirst g9 0 gs n c9 k x9 x (HG.out.wr.row.row.stays hx) HG.out.len.symm hl (by rw [fst_same hok.ids];exact hk) (by rw [<-HG.out.len];exact hkg)⟩
  have HPU:Shut (∀ P pok,putX r.h ⟨grp,(i:Nat),tx,0⟩=(P,pok)->∀ x,Below wr.heap.size wr x->Calls Tw.prog 23 #[.pointer (some ⟨g9,0+k*3,none⟩),unv ⟨grp,(i:Nat),tx,0⟩] x fun e w'=>PoPost P pok g9 (0+k*3) x e w'):=⟨fun P pok hp x hx=>implPutOn g9 (0+k*3) r _ P pok x (HTAB.out x (HB3.out.trans ((HG.out.wr.bel.trans (hx.mono HG.out.wr.bel.size)).mono HB3.out.size))) (fun W hW=>HWO.out W (hx.trans (hW.mono hx.size))) (Nat.lt_of_lt_of_le hg9 hx.size) (hc1 x hx).2.2.2 hrc (by omega) hrf.2.2 (by show tx.size<=_;omega) hp⟩
  obtain ⟨PX,hPX⟩:∃ q,q=putX r.h ⟨grp,(i:Nat),tx,0⟩:=⟨_,rfl⟩
  obtain ⟨P,pok⟩:=PX
  replace HPU:=Shut.mk (HPU.out P pok hPX.symm)
  replace HYS:=Shut.mk (fun h:pok=true=>HYS.out P (by rw [<-hPX,h]))
  replace HNO:=Shut.mk (fun h:pok=false=>HNO.out P (by rw [<-hPX,h]))
  unfold PoPost at HPU
  dsimp only [unv] at HPU
  have HKG:=Shut.mk hkg
  have HCAP:=Shut.mk hrc
  have i0:(0:Int)<=(i:Int):=by omega
  have i1:(i:Int)<(ni:Int):=by omega
  have i2:(i:Int)<(na:Int):=by omega
  clear hci hct hc1 hre hrf hrm hrc hgi huw hok htx htm hts hii hia hkg hk hx9 hxi hPX HWO hg9 lb1
  have HBX:=Shut.mk ((SL.start wr).new #[.int .i64 grp,.int .i64 (i:Nat),.string tx,.int .i64 0] 49)
  obtain ⟨ub,hub⟩:∃ q,q=wr.heap.size:=⟨_,rfl⟩
  rw [<-hub] at HBX
  go_upto_region 11 with fail
  rw [<-hub]
  refine wp_shade (fun W=>SL wr W [bxS ub [.int .i64 grp,.int .i64 (i:Nat),.string tx,.int .i64 0]]) HBX.out ?_
  intro W5 hW5
  have H5:=Shut.mk hW5
  clear HBX hW5 hub d9 dt
  have HTX:Shut (∀ x,Later W5.drew x->SL wr x [bxS ub [.int .i64 grp,.int .i64 (i:Nat),.string tx,.int .i64 0]]):=⟨fun x hx=>H5.out.below (Below.trans (Below.drew (Below.refl _ _)) hx)⟩
  have HLE:Shut (∀ x,Later W5.drew x->x.cell? ⟨ub,0,none⟩=some (.int .i64 grp)/\x.cell? ⟨ub,1,none⟩=some (.int .i64 (i:Nat))/\x.cell? ⟨ub,2,none⟩=some (.string tx)/\x.cell? ⟨ub,3,none⟩=some (.int .i64 0)):=⟨fun x hx=>⟨((HTX.out x hx).bx 0 rfl 0 _ rfl).1,((HTX.out x hx).bx 0 rfl 1 _ rfl).1,((HTX.out x hx).bx 0 rfl 2 _ rfl).1,((HTX.out x hx).bx 0 rfl 3 _ rfl).1⟩⟩
  clear H5
  refine wp_region_set (fun j=>decide (3<j)) (by kernel_rfl) ?_
  refine wpD_val (i:=0) (v:=?vq0) rfl (by kernel_rfl) (by kernel_rfl) (by kernel_rfl) (by kernel_rfl) (fun _ _ _ h=>h) (by rfl) ?hyq0 ?restq0
  case hyq0=>(intro x hx;obtain ⟨d0,d1,d2,d3⟩:=HLE.out x hx;go_simp;try with_reducible rfl)
  try simp only [Act.put,List.setIfInBounds_toArray,List.set_cons_zero,List.set_cons_succ]
  refine wpD_val (i:=1) (v:=?vq1) rfl (by kernel_rfl) (by kernel_rfl) (by kernel_rfl) (by kernel_rfl) (fun _ _ _ h=>h) (by rfl) ?hyq1 ?restq1
  case hyq1=>(intro x hx;obtain ⟨d0,d1,d2,d3⟩:=HLE.out x hx;go_simp;try with_reducible rfl)
  try simp only [Act.put,List.setIfInBounds_toArray,List.set_cons_zero,List.set_cons_succ]
  refine wpD_call (i:=2) (v:=.pointer (some ⟨g9,0+k*3,none⟩)) (f:=24) (args:=#[.slice (some ⟨g9,0,none⟩) n c9,.int .i64 x9]) rfl (by kernel_rfl) (by kernel_rfl) (by kernel_rfl) (by kernel_rfl) (fun _ _ _ h=>h) (by rfl) ?hyq2 (fun x hx=>HHO.out x (HTX.out x hx).bel) ?restq2
  case hyq2=>(intro x hx;obtain ⟨d0,d1,d2,d3⟩:=HLE.out x hx;go_simp;try with_reducible rfl)
  try simp only [Act.put,List.setIfInBounds_toArray,List.set_cons_zero,List.set_cons_succ]
  refine wpD_val (i:=3) (v:=?vq3) rfl (by kernel_rfl) (by kernel_rfl) (by kernel_rfl) (by kernel_rfl) (fun _ _ _ h=>h) (by rfl) ?hyq3 ?restq3
  case hyq3=>(intro x hx;obtain ⟨d0,d1,d2,d3⟩:=HLE.out x hx;go_simp;try with_reducible rfl)
  try simp only [Act.put,List.setIfInBounds_toArray,List.set_cons_zero,List.set_cons_succ]
  refine wpD_tail (by kernel_rfl) ?_
  intro x5 hx5
  have HB5:=Shut.mk (HTX.out x5 hx5).bel
  clear hx5 HTX HLE
  refine wpA_mid (i:=4) (f:=23) (args:=#[.pointer (some ⟨g9,0+k*3,none⟩),.agg #[.int .i64 grp,.int .i64 (i:Nat),.string tx,.int .i64 0]]) (by kernel_rfl) rfl (by rfl) (by go_simp) ((HPU.out x5 HB5.out).mono ?_)
  rintro e w6 ⟨wc,a8,c8,rfl,hb8,hF8,hc8,hw6⟩
  refine ⟨_,rfl,?_⟩
  have HBW:=Shut.mk (HB5.out.trans (hb8.mono HB5.out.size))
  have HF8:=Shut.mk (And.intro (frw_wide hF8 HB5.out.size (Nat.le_refl _)) hc8)
  clear hb8 hF8 hc8
  try simp only [Act.put,List.setIfInBounds_toArray,List.set_cons_zero,List.set_cons_succ]
  cases pok with
  | false =>
   have HF:Shut (R=(hs,false)):=⟨by rw [HQ.out,putAll_stop (HNO.out rfl) ni (by omega),wgEnd_none]⟩
   rw [if_neg (by decide)] at hw6
   subst hw6
   have HBZ:Shut (Below w.heap.size w w6):=⟨HB3.out.trans ((HG.out.wr.bel.trans (HBW.out.mono HG.out.wr.bel.size)).mono HB3.out.size)⟩
   refine wpA_val (i:=5) (v:=.bool true) rfl (by kernel_rfl) (by kernel_rfl) (by kernel_rfl) (fun _ _ _ h=>h) (by rfl) (fun x=>by go_simp) ?_
   try simp only [Act.put,List.setIfInBounds_toArray,List.set_cons_zero,List.set_cons_succ]
   refine wpA_done (by kernel_rfl) ?_ _
   go_wp2_with (go_at_call 22;refine (HCP.out _ HBZ.out).mono ?_;rintro e w8 hpost;obtain ⟨a7,c7,gs7,rfl,hm7,hc7,hwg⟩:=wr_of hpost;have hl7:gs7.length=n:=(by rw [<-hms_len,hm7];exact HHL.out);have H7:=Shut.mk hwg;have HC7:=Shut.mk (And.intro hm7 (And.intro hl7 hc7));rw [hl7];clear hpost hwg hm7 hc7 hl7)
   go_ret2
   exact ⟨a7,c7,gs7,by rw [HF.out,HC7.out.2.1];rfl,by rw [HF.out];exact HC7.out.1,HC7.out.2.2,H7.out.base HBZ.out⟩
  | true =>
   rw [if_pos rfl] at hw6
   obtain ⟨g8,hg8,hnw⟩:=HG.out.wr.host HBW.out k HKG.out P a8 c8 HF8.out.1 HF8.out.2
   simp only [Option.some.injEq,Addr.mk.injEq,and_true] at hg8
   subst hg8
   rw [Nat.zero_add] at hw6
   rw [<-hw6] at hnw
   have HX:Shut (WgSt hs grp all ids n (i+1) w3 w6 (some ⟨g9,0,none⟩) (gs.set k ⟨P,a8,c8⟩)):=⟨⟨by rw [HYS.out rfl];unfold hms;rw [List.map_set],by rw [List.length_set];exact HG.out.len,hnw⟩⟩
   clear hnw hw6
   refine wpA_val (i:=5) (v:=.bool false) rfl (by kernel_rfl) (by kernel_rfl) (by kernel_rfl) (fun _ _ _ h=>h) (by rfl) (fun x=>by go_simp) ?_
   try simp only [Act.put,List.setIfInBounds_toArray,List.set_cons_zero,List.set_cons_succ]
   refine wpA_done (by kernel_rfl) ?_ _
   go_wp2_with fail
   go_roundw
   case rel=>exact ⟨i+1,by go_num,by omega,⟨_,HX.out⟩⟩
   case measure=>simp [intOf];omega
end Go.Proofs.YteaieagkjepgiaaGreatDoorT
/- . -/
namespace Go.Proofs.YteaieagkjepgiaaGreatDoorT
set_option maxRecDepth 100000
open Go.RowKit BigFrame
attribute [local go_sem ↓] Go.wp_at_zero Go.wp_at_succ
theorem GW.cell3 {w:World} {g lo hi:Nat} {rs:List HoR} (h:GW HK w g rs lo hi) (j:Nat) (hj:j<rs.length) (f:Nat) (hf:f<3) (v:Value) (r:HoR) (hc:hC r=(hC rs[j]).set f v) (hl:r.loc=rs[j].loc) (hi':r.h.us=rs[j].h.us):GW HK (w.setCell ⟨g,j*3+f,none⟩ v) g (rs.set j r) lo hi:=by
 have hin:∀ s t:HoR,s.h.us=t.h.us->HK.inn s=HK.inn t:=fun s t e=>by show unS s.h.us=unS t.h.us;rw [e]
 refine ⟨?_,h.glo,h.ghi,fun s hs=>?_,?_⟩
 ·have q:=h.out.set (j*3+f) v (by rw [HK.cells_len];show j*3+f<rs.length*3;omega)
  have e:(HK.cells rs).set (j*3+f) v=HK.cells (rs.set j r):=by
   apply List.ext_getElem?
   intro i
   by_cases hi:i<rs.length*3
   ·obtain ⟨a,b,hb,rfl⟩:∃ a b,b<3/\i=a*3+b:=⟨i / 3,i % 3,by omega,by omega⟩
    have ha:a<rs.length:=by omega
    have e2:(HK.cells (rs.set j r))[a*3+b]?=(hC ((rs.set j r)[a]'(by rw [List.length_set];exact ha)))[b]?:=HK.cells_get (rs.set j r) a (by rw [List.length_set];exact ha) b hb
    have e1:(HK.cells rs)[a*3+b]?=(hC rs[a])[b]?:=HK.cells_get rs a ha b hb
    rw [e2,List.getElem?_set,List.getElem_set]
    by_cases hja:j=a
    ·subst hja
     rw [if_pos rfl,hc,List.getElem?_set,hC_len]
     by_cases hfb:f=b
     ·subst hfb
      rw [if_pos rfl,if_pos rfl,HK.cells_len,if_pos (by show j*3+f<rs.length*3;omega),if_pos hf]
     ·rw [if_neg (by omega),if_neg hfb,e1]
    ·rw [if_neg (by omega),if_neg hja,e1]
   ·have l1:(HK.cells rs).length=rs.length*3:=HK.cells_len rs
    have l2:(HK.cells (rs.set j r)).length=rs.length*3:=by rw [HK.cells_len,List.length_set];rfl
    rw [List.getElem?_eq_none (by rw [List.length_set,l1];omega),List.getElem?_eq_none (by rw [l2];omega)]
  rw [e] at q
  exact q
 ·rcases List.mem_or_eq_of_mem_set hs with q | rfl
  ·rcases h.rows s q with e | ⟨b,e,q1,q2,q3,q4⟩
   ·exact .inl e
   ·exact .inr ⟨b,e,q1,q2,q3,WCells.turned q4 (Turned.of_grown (gb_set' w g (j*3+f) v) (Nat.le_refl _) (Nat.lt_succ_self _)) (by omega)⟩
  ·rcases h.rows rs[j] (List.getElem_mem hj) with e | ⟨b,e,q1,q2,q3,q4⟩
   ·exact .inl ((hin _ _ hi').trans e)
   ·exact .inr ⟨b,hl.trans e,q1,q2,q3,by rw [hin _ _ hi'];exact WCells.turned q4 (Turned.of_grown (gb_set' w g (j*3+f) v) (Nat.le_refl _) (Nat.lt_succ_self _)) (by omega)⟩
 ·refine List.pairwise_iff_getElem.2 fun a b ha hb hab h1 h2=>?_
  rw [List.length_set] at ha hb
  have q:=List.pairwise_iff_getElem.1 h.apart a b ha hb hab
  have same:∀ c (hcl:c<rs.length),HK.inn ((rs.set j r)[c]'(by rw [List.length_set];exact hcl))=HK.inn rs[c]/\HK.loc ((rs.set j r)[c]'(by rw [List.length_set];exact hcl))=HK.loc rs[c]:=fun c hcl=>by
   rw [List.getElem_set]
   split
   ·rename_i e;subst e;exact ⟨hin _ _ hi',hl⟩
   ·exact ⟨rfl,rfl⟩
  rw [(same a ha).1] at h1
  rw [(same b hb).1] at h2
  rw [(same a ha).2,(same b hb).2]
  exact q h1 h2
theorem GW.units {w w':World} {g lo hi b:Nat} {rs:List HoR} (h:GW HK w g rs lo hi) (j:Nat) (hj:j<rs.length) (us:List UnM) (hlen:us.length=rs[j].h.us.length) (hne:0<us.length)
  (hb:rs[j].loc=some ⟨b,0,none⟩) (hbg:b ≠ g) (h1:lo<=b) (h2:b<hi) (hg:w.grownBy w' (some b)) (hw:WCells w' b (unS us)) :
  GW HK w' g (rs.set j ⟨⟨rs[j].h.id,rs[j].h.up,us⟩,rs[j].loc,rs[j].cap⟩) lo hi:=by
 have t:Turned w w' b (b+1):=Turned.of_grown hg (Nat.le_refl _) (Nat.lt_succ_self _)
 have hinn:∀ r:HoR,0<r.h.us.length->HK.inn r ≠ []:=fun r hr e=>by
  have:=congrArg List.length (show unS r.h.us=[] from e)
  rw [unS_len] at this
  simp at this
  omega
 have hsame:∀ c (hc:c<rs.length),c ≠ j->(rs.set j (⟨⟨rs[j].h.id,rs[j].h.up,us⟩,rs[j].loc,rs[j].cap⟩:HoR))[c]'(by rw [List.length_set];exact hc)=rs[c]:=fun c hc hcj=>by rw [List.getElem_set_ne (Ne.symm hcj)]
 have hap:∀ c (hc:c<rs.length),c ≠ j->HK.inn rs[c] ≠ []->rs[c].loc ≠ rs[j].loc:=fun c hc hcj h3=>by
  have hj0:HK.inn rs[j] ≠ []:=hinn _ (by omega)
  rcases Nat.lt_or_gt_of_ne hcj with e | e
  ·exact List.pairwise_iff_getElem.1 h.apart c j hc hj e h3 hj0
  ·exact (List.pairwise_iff_getElem.1 h.apart j c hj hc e hj0 h3).symm
 refine ⟨?_,h.glo,h.ghi,fun s hs=>?_,?_⟩
 ·have e:HK.cells (rs.set j ⟨⟨rs[j].h.id,rs[j].h.up,us⟩,rs[j].loc,rs[j].cap⟩)=HK.cells rs:=by
   apply List.ext_getElem?
   intro i
   by_cases hi:i<rs.length*3
   ·obtain ⟨a,c,hc,rfl⟩:∃ a c,c<3/\i=a*3+c:=⟨i / 3,i % 3,by omega,by omega⟩
    have ha:a<rs.length:=by omega
    have e2:(HK.cells (rs.set j (⟨⟨rs[j].h.id,rs[j].h.up,us⟩,rs[j].loc,rs[j].cap⟩:HoR)))[a*3+c]?=(hC ((rs.set j (⟨⟨rs[j].h.id,rs[j].h.up,us⟩,rs[j].loc,rs[j].cap⟩:HoR))[a]'(by rw [List.length_set];exact ha)))[c]?:=HK.cells_get _ a (by rw [List.length_set];exact ha) c hc
    have e1:(HK.cells rs)[a*3+c]?=(hC rs[a])[c]?:=HK.cells_get rs a ha c hc
    rw [e2,e1,List.getElem_set]
    split
    ·rename_i e;subst e;unfold hC;dsimp only;rw [hlen]
    ·rfl
   ·have l1:(HK.cells rs).length=rs.length*3:=HK.cells_len rs
    have l2:(HK.cells (rs.set j (⟨⟨rs[j].h.id,rs[j].h.up,us⟩,rs[j].loc,rs[j].cap⟩:HoR))).length=rs.length*3:=by rw [HK.cells_len,List.length_set];rfl
    rw [List.getElem?_eq_none (by rw [l2];omega),List.getElem?_eq_none (by rw [l1];omega)]
  rw [e]
  exact h.out.turned t (by omega)
 ·obtain ⟨c,hc,rfl⟩:=List.getElem_of_mem hs
  have hc':c<rs.length:=by rw [List.length_set] at hc;exact hc
  by_cases hcj:c=j
  ·subst hcj
   rw [List.getElem_set_self]
   exact .inr ⟨b,hb,h1,h2,hbg,hw⟩
  ·rw [hsame c hc' hcj]
   rcases h.rows rs[c] (List.getElem_mem hc') with e | ⟨q,e,q1,q2,q3,q4⟩
   ·exact .inl e
   ·by_cases hq:HK.inn rs[c]=[]
    ·exact .inl hq
    ·have hqb:q ≠ b:=fun e2=>hap c hc' hcj hq (by
      have e3:rs[c].loc=some ⟨q,0,none⟩:=e
      rw [e3,hb,e2])
     exact .inr ⟨q,e,q1,q2,q3,q4.turned t (by omega)⟩
 ·refine List.pairwise_iff_getElem.2 fun c d hc9 hd9 hcd h3 h4=>?_
  have hc:c<rs.length:=by rw [List.length_set] at hc9;exact hc9
  have hd:d<rs.length:=by rw [List.length_set] at hd9;exact hd9
  have loc:∀ z (hz:z<rs.length),HK.loc ((rs.set j (⟨⟨rs[j].h.id,rs[j].h.up,us⟩,rs[j].loc,rs[j].cap⟩:HoR))[z]'(by rw [List.length_set];exact hz))=rs[z].loc:=fun z hz=>by
   rw [List.getElem_set]
   split
   ·rename_i e;subst e;rfl
   ·rfl
  rw [loc c hc,loc d hd]
  by_cases ec:c=j
  ·subst ec
   rw [hsame d hd (by omega)] at h4
   exact (hap d hd (by omega) h4).symm
  ·rw [hsame c hc ec] at h3
   by_cases ed:d=j
   ·subst ed
    exact hap c hc ec h3
   ·rw [hsame d hd ed] at h4
    exact List.pairwise_iff_getElem.1 h.apart c d hc hd hcd h3 h4
theorem mod3 (c:Nat):((c:Int).tmod 3==0)=(c % 3==0):=by
 have:(c:Int).tmod 3=((c % 3:Nat):Int):=by
  rw [Int.tmod_eq_emod_of_nonneg (by omega)]
  omega
 rw [this]
 cases h:c % 3==0 with
 | true=>simp at h ⊢;omega
 | false=>simp at h ⊢;omega
set_option maxRecDepth 100000 in
set_option maxHeartbeats 4000000 in
theorem markHostS_all (g:Nat) (rs:List HoR) (k9 ca lo hi:Nat) (w:World) (ha:GW HK w g rs lo hi) (hcp:∀ r ∈ rs,r.h.us.length<=r.cap) (hk:0<k9) (hn:endH k9 (hms rs)<=1000000000) :
  Calls Tw.prog 9 #[.slice (some ⟨g,0,none⟩) rs.length ca,.int .i64 k9] w fun e w'=>e = .returned (.int .i64 (endH k9 (hms rs):Nat))/\∃ ys:List HoR,ys.length=rs.length/\hms ys=marksH k9 (hms rs)/\(∀ r ∈ ys,r.h.us.length<=r.cap)/\GW HK w' g ys lo hi/\Turned w w' lo hi:=by
 obtain ⟨n,hnn⟩:∃ n,n=rs.length:=⟨_,rfl⟩
 have HN:=Shut.mk hnn
 obtain ⟨hs,hhs⟩:∃ q,q=hms rs:=⟨_,rfl⟩
 rw [<-hnn,<-hhs]
 rw [<-hhs] at hn
 have HHS:=Shut.mk hhs
 have HA:=Shut.mk ha
 have HCP:=Shut.mk hcp
 have HL:Shut (hs.length=n):=⟨by rw [hhs,hms_len,hnn]⟩
 have HEN:Shut (∀ j,endH k9 (hs.take j)<=endH k9 hs/\k9<=endH k9 (hs.take j)):=⟨fun j=>by
  rw [endH_eq,endH_eq]
  have e1:hs.length=(hs.take j).length+(hs.drop j).length:=by rw [<-List.length_append,List.take_append_drop]
  have e2:(hs.map fun h=>h.us.length).sum=((hs.take j).map fun h=>h.us.length).sum+((hs.drop j).map fun h=>h.us.length).sum:=by rw [<-List.sum_append,<-List.map_append,List.take_append_drop]
  omega⟩
 have hl:n<=1000000000:=by have:=endH_eq k9 hs;have:=HL.out;omega
 clear ha hcp hnn hhs
 go_enter Tw.func9,Tw.ntmps9
 go_wp2_with fail
 go_loopw [1,5] (fun v i wr=>∃ (j c:Nat) (ys:List HoR),i = .int .i64 j/\v = .int .i64 c/\j<=n/\Shut (c=endH k9 (hs.take j))/\Shut (ys.length=n/\(∀ r ∈ ys,r.h.us.length<=r.cap)/\(∀ t (ht:t<n) (hy:t<ys.length) (hm:t<(marksH k9 hs).length),t<j->ys[t].h=(marksH k9 hs)[t])/\(∀ t,j<=t->ys[t]?=rs[t]?))/\Shut (GW HK wr g ys lo hi/\Turned w wr lo hi)) (fun _ i _=>n - (intOf i).toNat)
 case atStart=>exact ⟨0,k9,rs,rfl,rfl,Nat.zero_le _,⟨by simp [endH]⟩,⟨HN.out.symm,HCP.out,fun t _ _ _ ht=>by omega,fun t _=>rfl⟩,⟨HA.out,Turned.refl _ _ _⟩⟩
 case round =>
  obtain ⟨j,c,ys,rfl,rfl,hj,HC,HY,HW⟩:=hrel
  by_cases hlt:j<n
  ·have j0:(0:Int)<=(j:Int):=by omega
   have j1:(j:Int)<(n:Int):=by omega
   have hjy:j<ys.length:=by have:=HY.out.1;omega
   have hjr:j<rs.length:=by have:=HN.out;omega
   have hyr:ys[j]=rs[j]:=by
    have q:=HY.out.2.2.2 j (Nat.le_refl _)
    rw [List.getElem?_eq_getElem hjy,List.getElem?_eq_getElem hjr] at q
    exact Option.some.inj q
   have hjs:j<hs.length:=by have:=HL.out;omega
   have hsj:hs[j]=ys[j].h:=by rw [hyr];simp [HHS.out,hms]
   have hcb:c+2+4*ys[j].h.us.length<=1000000000:=by
    have q1:=HEN.out (j+1)
    rw [endH_take k9 hs j hjs,<-HC.out,hsj] at q1
    omega
   have HNX:Shut (c+2+4*ys[j].h.us.length=endH k9 (hs.take (j+1))):=⟨by rw [endH_take k9 hs j hjs,<-HC.out,hsj]⟩
   have hc0:0<c:=by have:=(HEN.out j).2;have:=HC.out;omega
   obtain ⟨y,hy⟩:∃ y,y=ys[j]:=⟨_,rfl⟩
   have hw0:=HW.out.1.out
   obtain ⟨c0,z0⟩:=hw0.2 (j*3) _ (HK.cells_get ys j hjy 0 (by decide))
   obtain ⟨c1,z1⟩:=hw0.2 (j*3+1) _ (HK.cells_get ys j hjy 1 (by decide))
   obtain ⟨c2,z2⟩:=hw0.2 (j*3+2) _ (HK.cells_get ys j hjy 2 (by decide))
   rw [<-hy] at hcb HNX
   obtain ⟨q,hq⟩:∃ q,q=((c+1) % 3==0):=⟨_,rfl⟩
   have hq2:(((c:Int)+1) % 3==0)=q:=by
    rw [hq,<-mod3,Int.tmod_eq_emod_of_nonneg (by omega)]
    push_cast
    rfl
   have HG1:Shut (GW HK (wr.setCell ⟨g,j*3,none⟩ (.int .i64 c)) g (ys.set j ⟨⟨c,y.h.up,y.h.us⟩,y.loc,y.cap⟩) lo hi):=⟨by
    have k:=HW.out.1.cell3 j hjy 0 (by decide) (.int .i64 c) ⟨⟨c,y.h.up,y.h.us⟩,y.loc,y.cap⟩ (by rw [hy];rfl) (by rw [hy]) (by rw [hy])
    rw [Nat.add_zero] at k
    exact k⟩
   have HG2:Shut (GW HK ((wr.setCell ⟨g,j*3,none⟩ (.int .i64 c)).setCell ⟨g,j*3+1,none⟩ (.bool q)) g (ys.set j ⟨⟨c,q,y.h.us⟩,y.loc,y.cap⟩) lo hi):=⟨by
    have k:=HG1.out.cell3 j (by rw [List.length_set];exact hjy) 1 (by decide) (.bool q) ⟨⟨c,q,y.h.us⟩,y.loc,y.cap⟩ (by rw [List.getElem_set_self];rfl) (by rw [List.getElem_set_self]) (by rw [List.getElem_set_self])
    rw [List.set_set] at k
    exact k⟩
   have HT2:Shut (Turned w ((wr.setCell ⟨g,j*3,none⟩ (.int .i64 c)).setCell ⟨g,j*3+1,none⟩ (.bool q)) lo hi):=⟨(HW.out.2.trans (Turned.of_grown (gb_set' _ g _ _) HW.out.1.glo HW.out.1.ghi)).trans (Turned.of_grown (gb_set' _ g _ _) HW.out.1.glo HW.out.1.ghi)⟩
   have HMK:Shut (∀ m,m=y.h.us.length->(⟨(c:Nat),q,marksU (c+2) m⟩:HM)=(marksH k9 hs)[j]'(by rw [marksH_len];exact hjs)):=⟨fun m hm=>by rw [marksH_at k9 hs j hjs,<-HC.out,hq,hm,hsj,<-hy]⟩
   have HCY:Shut (y.h.us.length<=y.cap):=⟨by rw [hy];exact HY.out.2.1 _ (List.getElem_mem hjy)⟩
   have HDONE:Shut (∀ (m:Nat) (r:HoR),m=y.h.us.length->r.h=⟨(c:Nat),q,marksU (c+2) m⟩->r.cap=y.cap->((ys.set j r).length=n/\(∀ s ∈ ys.set j r,s.h.us.length<=s.cap)/\(∀ t (ht:t<n) (h1:t<(ys.set j r).length) (hm:t<(marksH k9 hs).length),t<j+1->(ys.set j r)[t].h=(marksH k9 hs)[t])/\(∀ t,j+1<=t->(ys.set j r)[t]?=rs[t]?))):=⟨fun m r hm hr hrc=>⟨by rw [List.length_set];exact HY.out.1,fun s hs9=>by
     rcases List.mem_or_eq_of_mem_set hs9 with e | rfl
     ·exact HY.out.2.1 s e
     ·rw [hr,hrc];show (marksU (c+2) m).length<=y.cap;rw [marksU_len,hm];exact HCY.out,fun t ht h1 h2 htj=>by
     rw [List.length_set] at h1
     rw [List.getElem_set]
     split
     ·rename_i e;subst e;rw [hr];exact HMK.out m hm
     ·exact HY.out.2.2.1 t ht h1 h2 (by omega),fun t ht=>by rw [List.getElem?_set_ne (by omega)];exact HY.out.2.2.2 t (by omega)⟩⟩
   obtain ⟨m,hm⟩:∃ m,m=y.h.us.length:=⟨_,rfl⟩
   have at9:∀ (r:HoR) (W:World),GW HK W g (ys.set j r) lo hi->∀ f v,f<3->(hC r)[f]?=some v->W.cell? ⟨g,j*3+f,none⟩=some v/\W.frozen? ⟨g,j*3+f,none⟩=false:=fun r W h f v hf hv=>h.out.2 (j*3+f) v (by
    have k:=HK.cells_get (ys.set j r) j (by rw [List.length_set];exact hjy) f hf
    rw [List.getElem_set_self] at k
    exact k.trans hv)
   obtain ⟨a1,b1⟩:=at9 _ _ HG1.out 1 _ (by omega) rfl
   obtain ⟨a2,b2⟩:=at9 _ _ HG2.out 2 _ (by omega) rfl
   have HROW:Shut (y.h.us=[]\/∃ b,y.loc=some ⟨b,0,none⟩/\lo<=b/\b<hi/\b ≠ g/\WCells ((wr.setCell ⟨g,j*3,none⟩ (.int .i64 c)).setCell ⟨g,j*3+1,none⟩ (.bool q)) b (unS y.h.us)):=⟨by
    rcases HG2.out.rows ⟨⟨c,q,y.h.us⟩,y.loc,y.cap⟩ (List.mem_set hjy _) with e | h
    ·left
     have e1:unS y.h.us=[]:=e
     have e3:=congrArg List.length e1
     rw [unS_len] at e3
     exact List.eq_nil_of_length_eq_zero (by simp at e3;omega)
    ·exact .inr h⟩
   have HCW:Shut (((c+2:Nat):Int)=(c:Int)+1+1):=⟨by omega⟩
   rw [<-hm] at a2 hcb HNX
   have HM9:=Shut.mk hm
   have HSS:Shut (∀ us9,(ys.set j (⟨⟨c,q,y.h.us⟩,y.loc,y.cap⟩:HoR)).set j ⟨⟨c,q,us9⟩,y.loc,y.cap⟩=ys.set j ⟨⟨c,q,us9⟩,y.loc,y.cap⟩):=⟨fun us9=>by rw [List.set_set]⟩
   have HGJ:Shut ((ys.set j (⟨⟨c,q,y.h.us⟩,y.loc,y.cap⟩:HoR))[j]'(by rw [List.length_set];exact hjy)=⟨⟨c,q,y.h.us⟩,y.loc,y.cap⟩):=⟨List.getElem_set_self _⟩
   have hlj:j<(ys.set j (⟨⟨c,q,y.h.us⟩,y.loc,y.cap⟩:HoR)).length:=by rw [List.length_set];exact hjy
   clear hw0 c1 z1 c2 z2 at9 hq hm hyr hsj hy
   by_cases hm0:m=0
   ·have HZ:=Shut.mk (fun W=>markUnitS_zero y.loc (c+2) y.cap W)
    simp only [HCW.out] at HZ
    have HNIL:Shut (y.h.us=[]):=⟨List.eq_nil_of_length_eq_zero (by have:=HM9.out;omega)⟩
    subst hm0
    go_wp2_with (go_at_call 26;refine (HZ.out _).mono ?_;rintro e w3 ⟨rfl,hw3⟩;subst hw3)
    go_roundw
    case rel=>exact ⟨j+1,c+2,ys.set j ⟨⟨c,q,[]⟩,y.loc,y.cap⟩,by go_num,congrArg (Value.int .i64) (by omega),by omega,⟨by have:=HNX.out;omega⟩,⟨HDONE.out 0 _ HM9.out rfl rfl⟩,⟨by have k:=HG2.out;rw [HNIL.out] at k;exact k,HT2.out⟩⟩
    case measure=>simp [intOf];omega
   ·obtain ⟨b,hb,hb1,hb2,hbg,hbw⟩:∃ b,y.loc=some ⟨b,0,none⟩/\lo<=b/\b<hi/\b ≠ g/\WCells ((wr.setCell ⟨g,j*3,none⟩ (.int .i64 c)).setCell ⟨g,j*3+1,none⟩ (.bool q)) b (unS y.h.us):=by
     rcases HROW.out with e | h
     ·exact absurd (by have:=HM9.out;rw [e] at this;exact this) hm0
     ·exact h
    have HMU:=Shut.mk (markUnitS_all b y.h.us (c+2) y.cap _ hbw (by omega) (by have:=HM9.out;omega) HCY.out)
    rw [<-HM9.out,<-hb,HCW.out] at HMU
    have HBB:=Shut.mk (And.intro hb (And.intro hb1 (And.intro hb2 hbg)))
    clear hbw hb hb1 hb2 hbg
    go_wp2_with (go_at_call 26;refine HMU.out.mono ?_;rintro e w3 ⟨rfl,hw3,hg3⟩;have HW3:=Shut.mk (And.intro hw3 hg3);clear hw3 hg3)
    have HG3:Shut (GW HK w3 g (ys.set j ⟨⟨c,q,marksU (c+2) m⟩,y.loc,y.cap⟩) lo hi/\Turned w w3 lo hi):=⟨by
     have k:=HG2.out.units j hlj (marksU (c+2) m) (by rw [marksU_len,HGJ.out];exact HM9.out) (by rw [marksU_len];omega) (b:=b) (by rw [HGJ.out];exact HBB.out.1) HBB.out.2.2.2 HBB.out.2.1 HBB.out.2.2.1 HW3.out.2 HW3.out.1
     rw [HGJ.out] at k
     dsimp only at k
     rw [HSS.out] at k
     exact ⟨k,HT2.out.trans (Turned.of_grown HW3.out.2 HBB.out.2.1 HBB.out.2.2.1)⟩⟩
    go_roundw
    case rel=>exact ⟨j+1,c+2+4*m,ys.set j ⟨⟨c,q,marksU (c+2) m⟩,y.loc,y.cap⟩,by go_num,rfl,by omega,HNX,⟨HDONE.out m _ HM9.out rfl rfl⟩,HG3⟩
    case measure=>simp [intOf];omega
  ·obtain rfl:n=j:=by omega
   have HE:Shut (c=endH k9 hs):=⟨by rw [HC.out,List.take_of_length_le (by rw [HL.out];exact Nat.le_refl _)]⟩
   have HM:Shut (hms ys=marksH k9 hs):=⟨by
    apply List.ext_getElem
    ·rw [hms_len,marksH_len,HL.out,HY.out.1]
    ·intro t h1 h2
     rw [hms_len] at h1
     have q:=HY.out.2.2.1 t (by have:=HY.out.1;omega) h1 h2 (by have:=HY.out.1;omega)
     simp only [hms,List.getElem_map]
     exact q⟩
   go_wp2_with fail
   go_ret
   exact ⟨by rw [HE.out];rfl,ys,HY.out.1,HM.out,HY.out.2.1,HW.out.1,HW.out.2⟩
end Go.Proofs.YteaieagkjepgiaaGreatDoorT
