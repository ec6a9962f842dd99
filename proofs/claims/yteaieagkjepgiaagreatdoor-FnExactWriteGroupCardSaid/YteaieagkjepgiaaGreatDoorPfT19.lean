/- Texts of ours, laid one behind the other: TCdA, TTbA, TCdX, TBoolA, TCdB, TFieldQ, TPrO, TCdC, TSpnD, TSpnE, TStrW, TLawStr, TStI, TTwB. -/
import Derived.Test.YteaieagkjepgiaaGreatDoorPfT18
import Derived.Test.YteaieagkjepgiaaGreatDoorPfM14
import Derived.Deep.RegionHeld3
import Derived.Deep.DrawnRows
import Derived.BigQuiet
import Derived.PlainAid
set_option linter.unusedVariables false
set_option linter.unusedSimpArgs false
/- . -/
namespace Go.Proofs.YteaieagkjepgiaaGreatDoorT
set_option maxRecDepth 100000
open Go.RowKit
open W (B8 Mx)
attribute [local go_sem ↓] Go.wp_at_zero Go.wp_at_succ
attribute [local irreducible] W.gm W.xs W.mm W.gi mx matOk
theorem implSchemaOf (s:Int) (w:World):Calls Tw.prog 41 #[.int .i64 s] w fun e w'=>SchB s w e w':=by
 cases h:schOk s with
 | true =>
  obtain rfl | rfl | rfl:=sch_cases h
  all_goals
   clear h
   go_enter Tw.func41,Tw.ntmps41
   go_wp2_with fail
   go_ret3
   exact ⟨rfl,Below.refl _ _⟩
 | false =>
  obtain ⟨h1,h2,h3⟩:=sch_no h
  obtain ⟨e1,e2⟩:=sch_zero h
  unfold SchB
  rw [e1,e2,h]
  clear h e1 e2
  go_enter Tw.func41,Tw.ntmps41
  go_wp2_with fail
  go_ret3
  exact ⟨rfl,Below.refl _ _⟩
def RowPostI (xs:List Int) (w:World) (e:Ending) (w':World):Prop:=∃ v,e = .returned v/\w'.ownsRow w.heap.size 3 1 v xs.length (ics xs)/\Below w.heap.size w w'
set_option maxRecDepth 100000 in
set_option maxHeartbeats 2000000 in
theorem implSumRow (k i:Nat) (w:World) (hk:k<=4) (hi:i<=2):Calls Tw.prog 73 #[.int .i64 (k:Int),.int .i64 (i:Int)] w fun e w'=>RowPostI (codeRow k i) w e w':=by
 obtain ⟨i1,hi1,hy0,hy1,hy2⟩:=info_parts infoIntG
 go_enter Tw.func73,Tw.ntmps73
 go_wp2_with fail
 go_loopw [5,8] (fun rv jj wq=>∃ (j:Nat) (rr:Value),rr=rv/\jj = .int .i64 j/\j<=k/\Shut (wq.ownsRow w.heap.size 3 1 rr j (ics ((codeRow k i).take j)))/\Shut (Below w.heap.size w wq)) (fun _ jj _=>k - (intOf jj).toNat)
 case atStart=>exact ⟨0,_,rfl,rfl,by omega,⟨World.ownsRow_nil _ _ _ _⟩,⟨Below.refl _ _⟩⟩
 case round =>
  obtain ⟨j,rr,rfl,rfl,hjk,hown,hbq⟩:=hrel
  obtain ⟨wi,rfl⟩:∃ wi,wi=wr:=⟨_,rfl⟩
  by_cases hjl:j<k
  ·have hjl':(j:Int)<(k:Int):=by omega
   have j0:(0:Int)<=(j:Int):=by omega
   have hx:bits .xor .i64 ((k:Int)+(i:Int)) (j:Int)=(((k+i) ^^^ j:Nat):Int):=by
    have:=i64_xor (k+i) j (by omega) (by omega)
    rw [<-this];push_cast;rfl
   have hst:ics ((codeRow k i).take (j+1))=ics ((codeRow k i).take j)++[.int .i64 ((W.gi (g8 (((k+i) ^^^ j:Nat):Int))).toNat:Int)]:=by
    have hj2:j<(codeRow k i).length:=by rw [codeRow_len];exact hjl
    rw [List.take_succ_eq_append_getElem hj2]
    simp [codeRow,ics]
   have HINV:=Shut.mk (fun W=>implInvG (((k+i) ^^^ j:Nat):Int) W)
   generalize W.gi (g8 (((k+i) ^^^ j:Nat):Int))=G at *
   have HS2:=Shut.mk hst
   have hs3:=hbq.out.size
   generalize (((k+i) ^^^ j:Nat):Int)=X at *
   clear hst
   go_wp2_with fail
   refine (HINV.out _).mono ?_
   rintro e w5 ⟨rfl,rfl⟩
   have hown3:=hown.out
   clear hown HINV
   go_wp2_with (at_builtin;refine wpList_append_own _ rfl _ _ 39 rfl w.heap.size 3 i1 (.int .i64 0) 1 8 Tw.underlying39 hi1 hy0 hy1 hy2 rfl (by decide) _ _ _ rfl (hown3.alloc _) ⟨w5.heap.size,0,none⟩ 1 1 [.int .i64 (G.toNat:Int)] rfl rfl (cell_one_new _ _ _) ?c2 ?c3 ?c4 ?c5 ?_)
   case c2=>first | rfl | (intro u hu;simp at hu;subst hu;rfl)
   case c3=>unfold maxLen;omega
   case c4=>omega
   case c5=>first | omega | (simp;omega)
   intro v' w4 hown' hgrow _
   rw [<-HS2.out] at hown'
   have Q1:=Shut.mk hown'
   have Q2:=Shut.mk ((hbq.out.alloc hs3 (.cells #[.int .i64 (G.toNat:Int)] 3)).grown hgrow (by simp;omega) (fun j hj=>(hown3.lt j hj).1))
   clear hown' hgrow hown3 hbq
   go_wp2_with fail
   go_roundw
   case rel=>exact ⟨j+1,v',rfl,by go_num,by omega,Q1,Q2⟩
   case measure=>simp [intOf];omega
  ·have e:j=k:=by omega
   have hjl':¬ (j:Int)<(k:Int):=by omega
   have hown2:=hown.out
   rw [e,List.take_of_length_le (by rw [codeRow_len];exact Nat.le_refl _)] at hown2
   have HF:=Shut.mk hown2
   have HB:=Shut.mk hbq.out
   clear hown hbq hown2 e
   go_wp2_with fail
   go_ret
   exact ⟨_,rfl,by rw [codeRow_len];exact HF.out,HB.out⟩
theorem codeX_take' {s:Int} (h:schOk s=true) {i:Nat} (hi:i<schM s):(codeX s).take (schK s+i+1)=(codeX s).take (schK s+i)++[codeRow (schK s) i]:=by
 have hl:schK s+i<(codeX s).length:=by rw [codeX_len h];omega
 rw [List.take_succ_eq_append_getElem hl]
 congr 2
 simp only [codeX_yes h]
 rw [List.getElem_append_right (by simp)]
 simp
theorem codeX_start' {s:Int} (h:schOk s=true):(codeX s).take (schK s)=oneX (schK s:Nat):=by
 obtain ⟨b1,b2,_,_⟩:=sch_bounds h
 rw [codeX_yes h,List.take_append_of_le_length (by simp),List.take_of_length_le (by simp)]
 unfold oneX
 rw [if_pos (by omega)];rfl
set_option maxRecDepth 100000 in
set_option maxHeartbeats 4000000 in
theorem implCodeOf (s:Int) (w:World):Calls Tw.prog 47 #[.int .i64 s] w fun e w'=>MPost (codeX s) w e w':=by
 have HS:=Shut.mk (fun W=>implSchemaOf s W)
 cases h:schOk s with
 | false =>
  rw [codeX_no h]
  unfold SchB at HS
  rw [h] at HS
  clear h
  go_enter Tw.func47,Tw.ntmps47
  go_wp2_with fail
  refine (HS.out _).mono ?_
  rintro e w1 ⟨rfl,hb⟩
  have HB:=Shut.mk hb
  clear hb
  go_wp2_with fail
  go_ret
  exact ⟨_,rfl,MAns.empty _ _ _ _ _,HB.out⟩
 | true =>
  obtain ⟨i0,hi0,hz0,hz1,hz2⟩:=info_parts infoRow
  unfold SchB at HS
  rw [h] at HS
  obtain ⟨b1,b2,b3,b4⟩:=sch_bounds h
  have HSTA:=Shut.mk (codeX_start' h)
  have HTK:=Shut.mk (fun i (hi:i<schM s)=>codeX_take' h hi)
  have HLEN:=Shut.mk (codeX_len h)
  clear h
  generalize schK s=k at *
  generalize schM s=m at *
  generalize codeX s=C at *
  have HONE:=Shut.mk (fun W=>implOneB k W (by omega) (by omega))
  go_enter Tw.func47,Tw.ntmps47
  go_wp2_with fail
  refine (HS.out _).mono ?_
  rintro e w0 ⟨rfl,hb0⟩
  have HB0:=Shut.mk hb0
  clear hb0
  go_wp2_with fail
  refine (HONE.out _).mono ?_
  rintro e w1 ⟨v1,ss,rfl,hr1,hbi1⟩
  have hlo:(oneX (k:Int)).length=k:=by unfold oneX;rw [if_pos (by omega)];simp
  have hls:ss.length=k:=by rw [<-rws_len,hr1,hlo]
  have HLS:Hid (ss.length=k):=hls
  have HBI:=Shut.mk (hbi1.up' HB0.out)
  have HRW:Shut (rws ss=C.take (k+0)):=⟨by rw [hr1,Nat.add_zero,HSTA.out]⟩
  clear hr1 hbi1 hls hlo HONE HB0 HSTA
  go_wp2_with fail
  go_loopw [6,19] (fun v ii wr=>∃ (i:Nat) (ts:List SR) (vv:Value),vv=v/\ii = .int .i64 (i:Nat)/\i<=m/\ts.length=k+i/\Shut (rws ts=C.take (k+i))/\Shut (BI w wr vv ts)) (fun _ ii _=>m - (intOf ii).toNat)
  case atStart=>exact ⟨0,ss,_,rfl,rfl,Nat.zero_le _,HLS.out,HRW,HBI⟩
  case round =>
   clear HBI HRW HLS
   obtain ⟨i,ts,v,rfl,rfl,him,htl,hrw,hbi⟩:=hrel
   obtain ⟨wo,rfl⟩:∃ wo,wo=wr:=⟨_,rfl⟩
   have HTL:Hid (ts.length=k+i):=htl
   clear htl
   by_cases hlt:i<m
   ·have hlt':(i:Int)<(m:Int):=by omega
    have k0:(0:Int)<=(i:Int):=by omega
    have HST:=Shut.mk (HTK.out i hlt)
    have HSR:=Shut.mk (fun W=>implSumRow k i W (by omega) (by omega))
    go_wp2_with fail
    refine (HSR.out _).mono ?_
    rintro e wi ⟨rv,rfl,hown2,hbq⟩
    obtain ⟨gr,cr,rfl,hcr⟩:=own_at hown2 (by rw [codeRow_len];omega)
    rw [codeRow_len] at hown2 hcr ⊢
    have hgr:=hown2.lt gr rfl
    have HROW:=Shut.mk (own_wcells hown2)
    have HBI:=Shut.mk (hbi.out.newrow hbq hgr.1)
    have hsi:wo.heap.size<=wi.heap.size:=hbq.size
    have hso:=hbi.out.bel.size
    have hgr1:=hgr.1
    have hown:=HBI.out.1.own
    clear hown2 hbq hbi hgr HSR
    go_wp2_with (at_builtin;refine wpList_append_own _ rfl _ _ 65 rfl w.heap.size 39 i0 (.slice none 0 0) 1 24 Tw.underlying65 hi0 hz0 hz1 hz2 rfl (by decide) _ _ _ rfl (hown.alloc _) ⟨wi.heap.size,0,none⟩ 1 1 [.slice (some ⟨gr,0,none⟩) k cr] rfl rfl (cell_one_new _ _ _) ?c2 ?c3 ?c4 ?c5 ?_)
    case c2=>first | rfl | (intro u hu;simp at hu;subst hu;rfl)
    case c3=>unfold maxLen;have:=HTL.out;omega
    case c4=>have:=HTL.out;omega
    case c5=>first | omega | (simp;omega)
    intro v' w6 hown' hgrow _
    have hne:codeRow k i ≠ []:=fun e=>by have:=congrArg List.length e;rw [codeRow_len] at this;simp at this;omega
    have hap:=HBI.out.1.append (cap:=cr) (by omega) HROW.out hne (by rw [codeRow_len];exact hcr) HBI.out.2.1 HBI.out.2.2 (by rw [codeRow_len];exact hown') hgrow
    have HAP:=Shut.mk hap
    have HR2:Shut (rws (ts++[SR.mk (some ⟨gr,0,none⟩) (codeRow k i) cr])=C.take (k+(i+1))):=⟨by rw [rws_snoc,hrw.out,<-Nat.add_assoc,HST.out]⟩
    clear hap hown' hgrow hown HBI HROW hrw hne
    go_wp2_with fail
    go_roundw
    case rel=>exact ⟨i+1,_,v',rfl,by go_num,by omega,by rw [List.length_append,List.length_singleton,HTL.out];omega,HR2,HAP⟩
    case measure=>simp [intOf];omega
   ·have e:i=m:=by omega
    have hlt':¬ (i:Int)<(m:Int):=by omega
    have HF:=Shut.mk (hbi.out.fin (X:=C) (by rw [hrw.out,List.take_of_length_le (by rw [HLEN.out];omega)]))
    have HB:=Shut.mk hbi.out.bel
    clear e hbi hrw
    go_wp2_with fail
    go_ret
    exact ⟨v,rfl,HF.out,HB.out⟩
end Go.Proofs.YteaieagkjepgiaaGreatDoorT
/- . -/
namespace Go.Proofs.YteaieagkjepgiaaGreatDoorT
set_option maxRecDepth 100000
open Go.RowKit
open W (B8 Mx)
attribute [local irreducible] W.gm W.xs W.mm W.gi
theorem addL_getD:∀ (a b:List UInt8) (j:Nat),(W.addL a b).getD j 0=a.getD j 0 ^^^ b.getD j 0
 | [],b,j=>by simp [W.addL]
 | x::a,[],j=>by rw [W.addL_nil];simp
 | x::a,y::b,0=>by simp [W.addL]
 | x::a,y::b,j+1=>by
  have:=addL_getD a b j
  simpa [W.addL,List.getD] using this
theorem mulB_zero (A:B8):W.mulB A 0=0:=by
 unfold W.mulB
 have:W.gm A (0:UInt8).toBitVec=0#8:=W.gm_zero A
 rw [this];rfl
theorem mulL_getD (A:B8) (l:List UInt8) (j:Nat):(W.mulL A l).getD j 0=W.mulB A (l.getD j 0):=by
 unfold W.mulL
 rw [List.getD_eq_getElem?_getD,List.getElem?_map,List.getD_eq_getElem?_getD]
 cases l[j]? with
 | none=>simp [mulB_zero]
 | some x=>simp
def tb (u:ByteArray) (j:Nat):B8:=(u.data.toList.getD j 0).toBitVec
theorem tb_add (a b:ByteArray) (j:Nat):tb (addB a b) j=tb a j ^^^ tb b j:=by
 unfold tb addB
 rw [addL_getD];rfl
theorem tb_mul (A:B8) (u:ByteArray) (j:Nat):tb (mulT A u) j=W.gm A (tb u j):=by
 unfold tb mulT
 rw [mulL_getD];rfl
theorem tb_ext {a b:ByteArray} (hs:a.size=b.size) (h:∀ j,tb a j=tb b j):a=b:=by
 apply Go.WideShapes.bytes_inj
 apply List.ext_getElem hs
 intro j h1 h2
 have e:=h j
 unfold tb at e
 rw [List.getD_eq_getElem?_getD,List.getD_eq_getElem?_getD,List.getElem?_eq_getElem h1,List.getElem?_eq_getElem h2] at e
 exact UInt8.toBitVec_inj.1 e
theorem tb_acc (row:List Int) (L:List ByteArray) (j:Nat):∀ k,tb (accB row L k) j=W.xs k fun l=>W.gm (g8 (row.getD l 0)) (tb (L.getD l ⟨#[]⟩) j)
 | 0=>by rw [W.xs_0];rfl
 | k+1=>by
  unfold accB
  rw [tb_add,tb_mul,tb_acc row L j k,W.xs_succ]
end Go.Proofs.YteaieagkjepgiaaGreatDoorT
/- . -/
namespace Go.Proofs.YteaieagkjepgiaaGreatDoorT
set_option maxRecDepth 100000
open Go.RowKit
open W (B8 Mx)
attribute [local irreducible] W.gm W.xs W.mm W.gi mx matOk
theorem getD_in {α:Type} {L:List α} {k:Nat} (d:α) (h:k<L.length):L.getD k d=L[k]:=by simp [List.getD,h]
theorem accB_most (row:List Int) (L:List ByteArray):∀ k,k<=L.length->(accB row L k).size=mostL (L.take k)
 | 0,_=>rfl
 | k+1,h=>by
  have hk:k<L.length:=by omega
  unfold accB
  rw [addB_size,mulT_size,accB_most row L k (by omega),List.take_succ_eq_append_getElem hk,mostL_snoc,getD_in _ hk]
theorem tb_zeros (n j:Nat):tb (zerosB n) j=0#8:=by
 unfold tb zerosB
 rw [List.getD_eq_getElem?_getD,List.getElem?_replicate]
 split <;> rfl
theorem tb_fill (L:List ByteArray) (l j:Nat):tb ((fillL L).getD l ⟨#[]⟩) j=tb (L.getD l ⟨#[]⟩) j:=by
 unfold fillL
 by_cases h:l<L.length
 ·rw [getD_in _ (by rw [List.length_map];exact h),List.getElem_map,getD_in _ h,tb_add,tb_zeros]
  simp
 ·rw [List.getD_eq_getElem?_getD,List.getD_eq_getElem?_getD,List.getElem?_eq_none (by rw [List.length_map];omega),List.getElem?_eq_none (by omega)]
theorem mostL_even {L:List ByteArray} {m:Nat} (hne:L ≠ []) (h:∀ x ∈ L,x.size=m):mostL L=m:=by
 obtain ⟨x,r,rfl⟩:=List.exists_cons_of_ne_nil hne
 have h1:=mostL_le (L:=x::r) (x:=x) (by simp)
 have h2:=mostL_all (L:=x::r) (n:=m) (fun y hy=>Nat.le_of_eq (h y hy))
 have h3:=h x (by simp)
 omega
theorem fill_most (L:List ByteArray):mostL (fillL L)=mostL L:=by
 by_cases hL:L=[]
 ·subst hL;rfl
 ·refine mostL_even (fun e=>hL ?_) (fun x hx=>?_)
  ·have:=congrArg List.length e
   rw [fillL_len] at this
   exact List.eq_nil_of_length_eq_zero this
  ·obtain ⟨y,hy,rfl⟩:=List.mem_map.1 hx
   rw [addB_size,zerosB_size]
   have:=mostL_le hy
   omega
theorem acc_fill (row:List Int) (L:List ByteArray):accB row (fillL L) (fillL L).length=accB row L L.length:=by
 refine tb_ext ?_ (fun j=>?_)
 ·rw [accB_most _ _ _ (Nat.le_refl _),accB_most _ _ _ (Nat.le_refl _),List.take_of_length_le (Nat.le_refl _),List.take_of_length_le (Nat.le_refl _),fill_most]
 ·rw [tb_acc,tb_acc,fillL_len]
  exact W.xs_congr (fun l _=>by rw [tb_fill])
theorem app_fill (X:List (List Int)) (L:List ByteArray):appX X (fillL L)=appX X L:=by
 unfold appX
 rw [fillL_len]
 by_cases h:matOk X=true/\colsOf X=L.length
 ·rw [if_pos h,if_pos h]
  refine List.map_congr_left (fun row _=>?_)
  have:=acc_fill row L
  rw [fillL_len] at this
  exact this
 ·rw [if_neg h,if_neg h]
theorem short_most (L:List ByteArray):shortL L=true↔mostL L<=200:=by
 unfold shortL
 rw [List.all_eq_true]
 constructor
 ·intro h
  exact mostL_all (fun x hx=>by have:=h x hx;simpa using this)
 ·intro h x hx
  have:=mostL_le hx
  simp only [decide_eq_true_eq]
  omega
theorem enc_is {s:Int} {L:List ByteArray} (h1:schOk s=true) (h2:L.length=schK s) (h3:mostL L<=200):encX s L=(appX (codeX s) L,true):=by
 rw [encX_yes ⟨h1,h2,(short_most L).2 h3⟩,app_fill]
theorem enc_not {s:Int} {L:List ByteArray} (h:schOk s=true->L.length=schK s->¬ mostL L<=200):encX s L=([],false):=encX_no (fun q=>h q.1 q.2.1 ((short_most L).1 q.2.2))
end Go.Proofs.YteaieagkjepgiaaGreatDoorT
/- . -/
namespace Go.Proofs.YteaieagkjepgiaaGreatDoorT
set_option maxRecDepth 100000
open Go.RowKit
attribute [local go_sem ↓] Go.wp_at_zero Go.wp_at_succ
def bcs (xs:List Bool):List Value:=xs.map Value.bool
def BSee (w:World) (v:Value) (H:List Bool) (lo hi:Nat):Prop:=∃ (a:Option Addr) (cap:Nat),v = .slice a H.length cap/\RRow w a (bcs H) lo hi
def BAns (w:World) (v:Value) (H:List Bool) (lo hi:Nat):Prop:=∃ (a:Option Addr) (cap:Nat),v = .slice a H.length cap/\(H=[]\/∃ g,a=some ⟨g,0,none⟩/\lo<=g/\g<hi/\WCells w g (bcs H))
theorem BSee.turned {w w':World} {v:Value} {H:List Bool} {lo hi lo' hi':Nat} (h:BSee w v H lo hi) (t:Turned w w' lo' hi') (hd:hi<=lo'\/hi'<=lo):BSee w' v H lo hi:=by
 obtain ⟨a,cap,e,h1⟩:=h
 exact ⟨a,cap,e,h1.turned t hd⟩
theorem BSee.below {w w':World} {v:Value} {H:List Bool} {lo hi:Nat} (h:BSee w v H lo hi) (hb:Below w.heap.size w w'):BSee w' v H lo hi:=by
 obtain ⟨a,cap,e,h1⟩:=h
 exact ⟨a,cap,e,h1.below hb⟩
theorem BAns.turned {w w':World} {v:Value} {H:List Bool} {lo hi lo' hi':Nat} (h:BAns w v H lo hi) (t:Turned w w' lo' hi') (hd:hi<=lo'\/hi'<=lo):BAns w' v H lo hi:=by
 obtain ⟨a,cap,e,h1⟩:=h
 refine ⟨a,cap,e,?_⟩
 rcases h1 with rfl | ⟨g,rfl,h1,h2,h3⟩
 ·exact .inl rfl
 ·exact .inr ⟨g,rfl,h1,h2,h3.turned t (by omega)⟩
theorem BAns.below {w w':World} {v:Value} {H:List Bool} {lo hi:Nat} (h:BAns w v H lo hi) (hb:Below w.heap.size w w'):BAns w' v H lo hi:=by
 obtain ⟨a,cap,e,h1⟩:=h
 refine ⟨a,cap,e,?_⟩
 rcases h1 with rfl | ⟨g,rfl,h1,h2,h3⟩
 ·exact .inl rfl
 ·exact .inr ⟨g,rfl,h1,h2,h3.below hb h3.1⟩
end Go.Proofs.YteaieagkjepgiaaGreatDoorT
/- . -/
namespace Go.Proofs.YteaieagkjepgiaaGreatDoorT
set_option maxRecDepth 100000
open Go.RowKit
open W (B8 Mx)
attribute [local go_sem ↓] Go.wp_at_zero Go.wp_at_succ
attribute [local irreducible] W.gm W.xs W.mm W.gi mx matOk
theorem most_step {L:List ByteArray} {k:Nat} (h:k<L.length):mostL (L.take (k+1))=max (mostL (L.take k)) (L.getD k ⟨#[]⟩).size:=by
 rw [List.take_succ_eq_append_getElem h,mostL_snoc,getD_in _ h]
theorem most_part (L:List ByteArray) (k:Nat):mostL (L.take k)<=mostL L:=mostL_all (fun _ hx=>mostL_le (List.mem_of_mem_take hx))
theorem most_fitU {L:List ByteArray} (h:UFit L):mostL L<=1048576:=mostL_all (fun x hx=>h.2 x hx)
theorem most_fit {L:List ByteArray} (h:TFit L):mostL L<=1048576:=most_fitU h.u
set_option maxHeartbeats 1000000 in
theorem implLongestU {w:World} {v:Value} {L:List ByteArray} {lo hi:Nat} (hs:SSee w v L lo hi) (hf:UFit L):Calls Tw.prog 45 #[v] w fun e w'=>e = .returned (.int .i64 (mostL L:Nat))/\Below w.heap.size w w':=by
 obtain ⟨a,cap,rfl,hr⟩:=hs
 have HR:=Shut.mk hr
 have hn:L.length<=1048576:=hf.1
 have hm:=most_fitU hf
 clear hr hf
 go_enter Tw.func45,Tw.ntmps45
 go_wp2_with fail
 go_loopw [3,8] (fun m i wr=>∃ (k:Nat),i = .int .i64 k/\k<=L.length/\m = .int .i64 (mostL (L.take k):Nat)/\Below w.heap.size w wr) (fun _ i _=>L.length - (intOf i).toNat)
 case atStart=>exact ⟨0,rfl,Nat.zero_le _,rfl,Below.refl _ _⟩
 case round =>
  obtain ⟨k,rfl,hk,rfl,hb⟩:=hrel
  have hmk:=most_part L k
  by_cases hlt:k<L.length
  ·obtain ⟨b,off,rfl,lb,hc⟩:=units_in HR.out (by omega)
   have d0:=(hb.cell (p:=⟨b,off+k,none⟩) lb).trans (hc k hlt)
   have hst:=most_step hlt
   have hms:=most_part L (k+1)
   have k0:(0:Int)<=(k:Int):=by omega
   have k1:(k:Int)<(L.length:Int):=by omega
   rw [hst] at hms
   generalize L.getD k ⟨#[]⟩=x at *
   generalize mostL (L.take k)=m at *
   have HST:=Shut.mk hst
   have HBN:=Shut.mk hb
   clear hc hst hb
   go_wp2_with fail
   go_roundw
   case rel=>exact ⟨k+1,by go_num,by omega,congrArg (Value.int .i64) (by rw [HST.out];first|omega|(split <;> omega)),HBN.out⟩
   case measure=>simp [intOf];omega
  ·have e:k=L.length:=by omega
   have hlt':¬ (k:Int)<(L.length:Int):=by omega
   have hx:mostL (L.take k)=mostL L:=by rw [List.take_of_length_le (by omega)]
   rw [hx]
   clear hx e hmk
   go_wp2_with fail
   go_ret
   exact ⟨rfl,hb⟩
theorem implLongest {w:World} {v:Value} {L:List ByteArray} {lo hi:Nat} (hs:SSee w v L lo hi) (hf:TFit L):Calls Tw.prog 45 #[v] w fun e w'=>e = .returned (.int .i64 (mostL L:Nat))/\Below w.heap.size w w':=implLongestU hs hf.u
end Go.Proofs.YteaieagkjepgiaaGreatDoorT
/- . -/
namespace Go.Proofs.YteaieagkjepgiaaGreatDoorT
set_option maxRecDepth 100000
open Go.RowKit
open W (B8)
attribute [local go_sem ↓] Go.wp_at_zero Go.wp_at_succ
attribute [local irreducible] W.gm W.xt W.gp W.gi
set_option maxHeartbeats 1000000 in
theorem implAdd_long (a b:ByteArray) (w:World) (ha:a.size<=1048576) (h:b.size<=a.size) :
  Calls Tw.prog 70 #[.string a,.string b] w fun e w'=>e = .returned (.string (addB a b))/\Below w.heap.size w w':=by
 have hlt':¬ (a.size:Int)<(b.size:Int):=by omega
 obtain ⟨w1,c1,hcv,hrow,hb1⟩:=bytes_made w a
 have hla:a.data.toList.length=a.size:=rfl
 have hlb:b.data.toList.length=b.size:=rfl
 have HB1:Hid (Below w.heap.size w w1):=hb1
 have HROW:Hid (BRow w1 w.heap.size a.data.toList):=hrow
 clear hb1 hrow
 go_enter Tw.func70,Tw.ntmps70
 go_wp2_with fail
 go_loopw [18] (fun i wr=>∃ k:Nat,i = .int .i64 k/\k<=b.size/\BRow wr w.heap.size (W.addTo a.data.toList b.data.toList k)/\Below w.heap.size w wr) (fun i _=>b.size - (intOf i).toNat)
 case atStart=>exact ⟨0,rfl,Nat.zero_le _,by rw [W.addTo_zero];exact HROW.out,HB1.out⟩
 case round =>
  obtain ⟨k,rfl,hk,hrw,hbl⟩:=hrel
  have hll:=W.addTo_len (a:=a.data.toList) (b:=b.data.toList) (k:=k) h
  by_cases hlt:k<b.size
  ·have k0:(0:Int)<=(k:Int):=by omega
   have k1:(k:Int)<(b.size:Int):=by omega
   have k2:(k:Int)<(a.size:Int):=by omega
   have hst:=W.addTo_step (a:=a.data.toList) (b:=b.data.toList) (k:=k) h hlt
   have hc:=hrw.2 k (by omega)
   obtain ⟨hc1,hc2⟩:=hc
   have hset:=hrw.set k (a.data.toList.getD k 0 ^^^ b.data.toList.getD k 0) (by omega)
   rw [hst.2] at hset
   have hix:=index_str b k hlt
   rw [get_list b k hlt] at hix
   have hiy:=index_str a k (by omega)
   rw [get_list a k (by omega)] at hiy
   have hp:∀ w:World,Calls Tw.prog 86 #[.int .u8 ((a.data.toList.getD k 0).toNat:Int),.int .u8 ((b.data.toList.getD k 0).toNat:Int)] w fun e w'=>e = .returned (.int .u8 ((a.data.toList.getD k 0 ^^^ b.data.toList.getD k 0).toNat:Int))/\w'=w:=fun w=>implPlus (a.data.toList.getD k 0).toBitVec (b.data.toList.getD k 0).toBitVec w
   generalize (W.addTo a.data.toList b.data.toList k).getD k 0=o at *
   generalize a.data.toList.getD k 0=x at *
   generalize b.data.toList.getD k 0=y at *
   have HS:Hid (BRow (wr.setCell ⟨w.heap.size,k,none⟩ (.int .u8 ((x ^^^ y).toNat:Int))) w.heap.size (W.addTo a.data.toList b.data.toList (k+1))):=hset
   have HBL:Hid (Below w.heap.size w wr):=hbl
   clear hset hst hrw hbl
   generalize x ^^^ y=z at *
   go_wp2_with fail
   go_region_with ((go_at_call 86;refine (hp _).mono ?_;rintro e w9 ⟨rfl,rfl⟩))
   all_goals go_wp2_with fail
   all_goals exact ⟨⟨k+1,by go_num,by omega,HS.out,Below.drew (HBL.out.setCell (Nat.le_refl _) _)⟩,by simp [intOf];omega⟩
  ·have e:k=b.size:=by omega
   subst e
   have hall:=W.addTo_all (a:=a.data.toList) (b:=b.data.toList) h
   rw [hlb] at hall
   have hcv2:=brow_string (cap:=c1) hrw
   rw [hall] at hcv2
   have hl2:(W.addL a.data.toList b.data.toList).length=a.size:=by rw [<-hall];exact hll
   rw [hl2] at hcv2
   have HBL:Hid (Below w.heap.size w wr):=hbl
   clear hrw hall hl2 hll hbl
   go_wp2_with fail
   go_ret
   exact ⟨rfl,HBL.out⟩
set_option maxHeartbeats 1000000 in
theorem implAdd_short (a b:ByteArray) (w:World) (ha:a.size<=1048576) (h':b.size<a.size) :
  Calls Tw.prog 70 #[.string b,.string a] w fun e w'=>e = .returned (.string (addB a b))/\Below w.heap.size w w':=by
 have hlt':(b.size:Int)<(a.size:Int):=by omega
 have h:b.size<=a.size:=by omega
 clear h'
 obtain ⟨w1,c1,hcv,hrow,hb1⟩:=bytes_made w a
 have hla:a.data.toList.length=a.size:=rfl
 have hlb:b.data.toList.length=b.size:=rfl
 have HB1:Hid (Below w.heap.size w w1):=hb1
 have HROW:Hid (BRow w1 w.heap.size a.data.toList):=hrow
 clear hb1 hrow
 go_enter Tw.func70,Tw.ntmps70
 go_wp2_with fail
 go_loopw [18] (fun i wr=>∃ k:Nat,i = .int .i64 k/\k<=b.size/\BRow wr w.heap.size (W.addTo a.data.toList b.data.toList k)/\Below w.heap.size w wr) (fun i _=>b.size - (intOf i).toNat)
 case atStart=>exact ⟨0,rfl,Nat.zero_le _,by rw [W.addTo_zero];exact HROW.out,HB1.out⟩
 case round =>
  obtain ⟨k,rfl,hk,hrw,hbl⟩:=hrel
  have hll:=W.addTo_len (a:=a.data.toList) (b:=b.data.toList) (k:=k) h
  by_cases hlt:k<b.size
  ·have k0:(0:Int)<=(k:Int):=by omega
   have k1:(k:Int)<(b.size:Int):=by omega
   have k2:(k:Int)<(a.size:Int):=by omega
   have hst:=W.addTo_step (a:=a.data.toList) (b:=b.data.toList) (k:=k) h hlt
   have hc:=hrw.2 k (by omega)
   obtain ⟨hc1,hc2⟩:=hc
   have hset:=hrw.set k (a.data.toList.getD k 0 ^^^ b.data.toList.getD k 0) (by omega)
   rw [hst.2] at hset
   have hix:=index_str b k hlt
   rw [get_list b k hlt] at hix
   have hiy:=index_str a k (by omega)
   rw [get_list a k (by omega)] at hiy
   have hp:∀ w:World,Calls Tw.prog 86 #[.int .u8 ((a.data.toList.getD k 0).toNat:Int),.int .u8 ((b.data.toList.getD k 0).toNat:Int)] w fun e w'=>e = .returned (.int .u8 ((a.data.toList.getD k 0 ^^^ b.data.toList.getD k 0).toNat:Int))/\w'=w:=fun w=>implPlus (a.data.toList.getD k 0).toBitVec (b.data.toList.getD k 0).toBitVec w
   generalize (W.addTo a.data.toList b.data.toList k).getD k 0=o at *
   generalize a.data.toList.getD k 0=x at *
   generalize b.data.toList.getD k 0=y at *
   have HS:Hid (BRow (wr.setCell ⟨w.heap.size,k,none⟩ (.int .u8 ((x ^^^ y).toNat:Int))) w.heap.size (W.addTo a.data.toList b.data.toList (k+1))):=hset
   have HBL:Hid (Below w.heap.size w wr):=hbl
   clear hset hst hrw hbl
   generalize x ^^^ y=z at *
   go_wp2_with fail
   go_region_with ((go_at_call 86;refine (hp _).mono ?_;rintro e w9 ⟨rfl,rfl⟩))
   all_goals go_wp2_with fail
   all_goals exact ⟨⟨k+1,by go_num,by omega,HS.out,Below.drew (HBL.out.setCell (Nat.le_refl _) _)⟩,by simp [intOf];omega⟩
  ·have e:k=b.size:=by omega
   subst e
   have hall:=W.addTo_all (a:=a.data.toList) (b:=b.data.toList) h
   rw [hlb] at hall
   have hcv2:=brow_string (cap:=c1) hrw
   rw [hall] at hcv2
   have hl2:(W.addL a.data.toList b.data.toList).length=a.size:=by rw [<-hall];exact hll
   rw [hl2] at hcv2
   have HBL:Hid (Below w.heap.size w wr):=hbl
   clear hrw hall hl2 hll hbl
   go_wp2_with fail
   go_ret
   exact ⟨rfl,HBL.out⟩
theorem implAddText (a b:ByteArray) (w:World) (ha:a.size<=1048576) (hb:b.size<=1048576):Calls Tw.prog 70 #[.string a,.string b] w fun e w'=>e = .returned (.string (addB a b))/\Below w.heap.size w w':=by
 by_cases h:b.size<=a.size
 ·exact implAdd_long a b w ha h
 ·rw [addB_comm];exact implAdd_short b a w hb (by omega)
set_option maxHeartbeats 1000000 in
theorem implMulText (x:Int) (s:ByteArray) (w:World) (hs:s.size<=1048576):Calls Tw.prog 71 #[.int .i64 x,.string s] w fun e w'=>e = .returned (.string (mulT (g8 x) s))/\Below w.heap.size w w':=by
 have hm:=g8_nat x
 generalize g8 x=A at *
 obtain ⟨w1,c1,hcv,hrow,hb1⟩:=bytes_made w s
 have HB1:Hid (Below w.heap.size w w1):=hb1
 have HROW:Hid (BRow w1 w.heap.size s.data.toList):=hrow
 clear hb1 hrow
 go_enter Tw.func71,Tw.ntmps71
 go_wp2_with fail
 go_loopw [11] (fun i wr=>∃ k:Nat,i = .int .i64 k/\k<=s.size/\BRow wr w.heap.size (W.mulTo A s.data.toList k)/\Below w.heap.size w wr) (fun i _=>s.size - (intOf i).toNat)
 case atStart=>exact ⟨0,rfl,Nat.zero_le _,by rw [W.mulTo_zero];exact HROW.out,HB1.out⟩
 case round =>
  obtain ⟨k,rfl,hk,hrw,hbl⟩:=hrel
  have hll:=W.mulTo_len A s.data.toList k
  have hls:s.data.toList.length=s.size:=rfl
  by_cases hlt:k<s.size
  ·have k0:(0:Int)<=(k:Int):=by omega
   have k1:(k:Int)<(s.size:Int):=by omega
   have hst:=W.mulTo_step A (l:=s.data.toList) (k:=k) hlt
   have hc:=hrw.2 k (by omega)
   rw [hst.1] at hc
   obtain ⟨hc1,hc2⟩:=hc
   have hset:=hrw.set k (W.mulB A (s.data.toList.getD k 0)) (by omega)
   rw [hst.2] at hset
   have hix:=index_str s k hlt
   rw [get_list s k hlt] at hix
   generalize s.data.toList.getD k 0=c at *
   have hcall:∀ w:World,Calls Tw.prog 87 #[.int .u8 (x % 256),.int .u8 (c.toNat:Int)] w fun e w'=>e = .returned (.int .u8 ((W.mulB A c).toNat:Int))/\w'=w:=fun w=>by rw [<-hm];exact implTimes A c.toBitVec w
   have HS:Hid (BRow (wr.setCell ⟨w.heap.size,k,none⟩ (.int .u8 ((W.mulB A c).toNat:Int))) w.heap.size (W.mulTo A s.data.toList (k+1))):=hset
   have HBL:Hid (Below w.heap.size w wr):=hbl
   clear hset hst hrw hbl
   generalize W.mulB A c=y at *
   go_wp2_with fail
   refine (hcall _).mono ?_
   rintro e w2 ⟨rfl,rfl⟩
   go_wp2_with fail
   go_roundw
   case rel=>exact ⟨k+1,by go_num,by omega,HS.out,HBL.out.setCell (Nat.le_refl _) _⟩
   case measure=>simp [intOf];omega
  ·have e:k=s.size:=by omega
   have hlt':¬ (k:Int)<(s.size:Int):=by omega
   subst e
   have hall:=W.mulTo_all A s.data.toList (k:=s.size) (Nat.le_of_eq hls)
   have hcv2:=brow_string (cap:=c1) hrw
   rw [hall] at hcv2
   have hl2:(W.mulL A s.data.toList).length=s.size:=by rw [W.mulL_len];exact hls
   rw [hl2] at hcv2
   have HBL:Hid (Below w.heap.size w wr):=hbl
   clear hrw hall hl2 hll hbl
   go_wp2_with fail
   go_ret
   exact ⟨rfl,HBL.out⟩
end Go.Proofs.YteaieagkjepgiaaGreatDoorT
/- . -/
namespace Go.Proofs.YteaieagkjepgiaaGreatDoorT
set_option maxRecDepth 100000
open Go.RowKit
open W (B8 Mx)
attribute [local go_sem ↓] Go.wp_at_zero Go.wp_at_succ
attribute [local irreducible] W.gm W.xs W.mm W.gi mx addB mulT matOk
set_option maxRecDepth 100000 in
set_option maxHeartbeats 4000000 in
theorem applyI_walk (X:List (List Int)) (L:List ByteArray) (n m b1 o1 b2 o2 cap1 cap2:Nat) (w:World) (hn1:1<=n) (hn8:n<=8) (hm1:1<=m) (hm8:m<=8) (hxl:X.length=n) (hll:L.length=m)
  (hR:b1<w.heap.size/\∀ i,i<n->∃ b' o' cp,w.cell? ⟨b1,o1+i,none⟩=some (.slice (some ⟨b',o',none⟩) m cp)/\b'<w.heap.size/\∀ j,j<m->w.cell? ⟨b',o'+j,none⟩=some (.int .i64 ((X.getD i []).getD j 0)))
  (hU:b2<w.heap.size/\∀ j,j<m->w.cell? ⟨b2,o2+j,none⟩=some (.string (L.getD j ⟨#[]⟩))) (hf:∀ x ∈ L,x.size<=1048576)
  (hc1:∀ W:World,Below w.heap.size w W->Calls Tw.prog 69 #[.slice (some ⟨b1,o1,none⟩) n cap1] W fun e w'=>e = .returned (.bool true)/\Below W.heap.size W w') :
  Calls Tw.prog 46 #[.slice (some ⟨b1,o1,none⟩) n cap1,.slice (some ⟨b2,o2,none⟩) m cap2] w fun e w'=>SPost (X.map fun row=>accB row L L.length) w e w':=by
 obtain ⟨i0,hi0,hz0,hz1,hz2⟩:=info_parts infoTextG
 have HC1:Hid _:=hc1
 have HR:Shut (b1<w.heap.size/\∀ i,i<n->∃ b' o' cp,w.cell? ⟨b1,o1+i,none⟩=some (.slice (some ⟨b',o',none⟩) m cp)/\b'<w.heap.size/\∀ j,j<m->w.cell? ⟨b',o'+j,none⟩=some (.int .i64 ((X.getD i []).getD j 0))):=⟨hR⟩
 have HU:Shut (b2<w.heap.size/\∀ j,j<m->w.cell? ⟨b2,o2+j,none⟩=some (.string (L.getD j ⟨#[]⟩))):=⟨hU⟩
 have HF:Shut (∀ x ∈ L,x.size<=1048576):=⟨hf⟩
 have HX:Shut (X.length=n/\L.length=m):=⟨hxl,hll⟩
 have hne:((m:Int) != (m:Int))=false:=by simp
 have n0:(0:Int)<(n:Int):=by omega
 clear hc1 hR hU hf hxl hll
 go_enter Tw.func46,Tw.ntmps46
 go_wp2_with fail
 refine (HC1.out _ (Below.refl _ _)).mono ?_
 rintro e w1 ⟨rfl,hb1⟩
 have hbw1:Below w.heap.size w w1:=hb1
 obtain ⟨br,or,cr,d0',lr,_⟩:=HR.out.2 0 (by omega)
 have d0:w1.cell? ⟨b1,o1,none⟩=some (.slice (some ⟨br,or,none⟩) m cr):=(hbw1.cell (p:=⟨b1,o1+0,none⟩) HR.out.1).trans d0'
 have HOWN:Shut (w1.ownsRow w.heap.size 9 1 (.slice none 0 0) 0 []):=⟨World.ownsRow_nil _ _ _ _⟩
 have HB1:Shut (Below w.heap.size w w1):=⟨hbw1⟩
 clear hb1 hbw1 HC1 d0'
 go_wp2_with fail
 go_loopw [5,25] (fun v i wr=>∃ (k:Nat) (vv:Value),vv=v/\i = .int .i64 k/\k<=n/\Shut (wr.ownsRow w.heap.size 9 1 vv k (tv ((X.map fun row=>accB row L L.length).take k)))/\Shut (Below w.heap.size w wr)) (fun _ i _=>n - (intOf i).toNat)
 case atStart=>exact ⟨0,_,rfl,rfl,by omega,HOWN,HB1⟩
 case round =>
  clear HOWN HB1 d0 lr
  obtain ⟨k,v,rfl,rfl,hk,hown,hb⟩:=hrel
  obtain ⟨wo,rfl⟩:∃ wo,wo=wr:=⟨_,rfl⟩
  by_cases hlt:k<n
  ·have hlt':(k:Int)<(n:Int):=by omega
   have k0:(0:Int)<=(k:Int):=by omega
   obtain ⟨b',o',cp,e1,l1,e2⟩:=HR.out.2 k hlt
   have d1:=(hb.out.cell (p:=⟨b1,o1+k,none⟩) HR.out.1).trans e1
   have HE2:=Shut.mk e2
   clear e1 e2
   obtain ⟨r,hre⟩:∃ r,r=X.getD k []:=⟨_,rfl⟩
   have HRE:Shut (r=X.getD k []):=⟨hre⟩
   clear hre
   go_wp2_with fail
   go_loopw [8,31] (fun s j wq=>∃ (t:Nat),j = .int .i64 t/\t<=m/\s = .string (accB r L t)/\Shut (wq.ownsRow w.heap.size 9 1 v k (tv ((X.map fun row=>accB row L L.length).take k)))/\Shut (Below w.heap.size w wq)) (fun _ j _=>m - (intOf j).toNat)
   case atStart=>exact ⟨0,rfl,by omega,rfl,hown,hb⟩
   case round =>
    clear hown hb
    obtain ⟨t,rfl,ht,rfl,hown,hb⟩:=hrel
    obtain ⟨wi,rfl⟩:∃ wi,wi=wr:=⟨_,rfl⟩
    by_cases htl:t<m
    ·have htl':(t:Int)<(m:Int):=by omega
     have t0:(0:Int)<=(t:Int):=by omega
     have d2:=(hb.out.cell (p:=⟨b',o'+t,none⟩) l1).trans (HE2.out t htl)
     have d3:=(hb.out.cell (p:=⟨b2,o2+t,none⟩) HU.out.1).trans (HU.out.2 t htl)
     rw [<-HRE.out] at d2
     have hsz:=hb.out.size
     have l2:b1<wi.heap.size:=Nat.lt_of_lt_of_le HR.out.1 hsz
     have l3:b2<wi.heap.size:=Nat.lt_of_lt_of_le HU.out.1 hsz
     have l4:b'<wi.heap.size:=Nat.lt_of_lt_of_le l1 hsz
     have hst:accB r L (t+1)=addB (accB r L t) (mulT (g8 (r.getD t 0)) (L.getD t ⟨#[]⟩)):=rfl
     have hz1:=accB_size r L HF.out t
     have hz2:=HF.out (L.getD t ⟨#[]⟩) (by have:=HX.out.2;simp [List.getD,show t<L.length by omega])
     have hz3:=mulT_size (g8 (r.getD t 0)) (L.getD t ⟨#[]⟩)
     have HM:=Shut.mk fun W=>implMulText (r.getD t 0) (L.getD t ⟨#[]⟩) W hz2
     have HA:=Shut.mk fun W=>implAddText (accB r L t) (mulT (g8 (r.getD t 0)) (L.getD t ⟨#[]⟩)) W hz1 (by omega)
     generalize mulT (g8 (r.getD t 0)) (L.getD t ⟨#[]⟩)=M at HM HA hst
     generalize r.getD t 0=x at *
     generalize L.getD t ⟨#[]⟩=u at *
     have HST:=Shut.mk hst
     clear hst hz1 hz2 hz3
     go_wp2_with fail
     refine (HM.out _).mono ?_
     rintro e w6 ⟨rfl,hbA⟩
     have HBA:=Shut.mk hbA
     clear hbA
     go_wp2_with fail
     refine (HA.out _).mono ?_
     rintro e w7 ⟨rfl,hbB⟩
     have hbx:Below wi.heap.size wi w7:=HBA.out.trans (hbB.mono HBA.out.size)
     have HO:=Shut.mk (hown.out.kept (row:=none) ⟨hbx.os,hbx.tape,hbx.output,hbx.size,fun k hk _=>hbx.block k hk⟩ (Classical.em _))
     have HB2:=Shut.mk (hb.out.trans (hbx.mono hb.out.size))
     clear hbx HBA hbB hown hb
     go_wp2_with fail
     go_roundw
     case rel=>exact ⟨t+1,by go_num,by omega,by rw [HST.out],HO,HB2⟩
     case measure=>simp [intOf];omega
    ·have e:t=m:=by omega
     have htl':¬ (t:Int)<(m:Int):=by omega
     have hsz:=hb.out.size
     have hown':=hown.out
     have HST:Shut (tv ((X.map fun row=>accB row L L.length).take (k+1))=tv ((X.map fun row=>accB row L L.length).take k)++[.string (accB r L t)]):=⟨by
      have hkx:k<X.length:=by have:=HX.out.1;omega
      rw [List.take_succ_eq_append_getElem (by rw [List.length_map];exact hkx),<-tv_snoc,List.getElem_map,HRE.out,e,HX.out.2]
      congr 3
      simp [List.getD,hkx]⟩
     clear e hown
     generalize accB r L t=T at *
     go_wp2_with (at_builtin;refine wpList_append_own _ rfl _ _ 35 rfl w.heap.size 9 i0 (.string ⟨#[]⟩) 1 16 Tw.underlying35 hi0 hz0 hz1 hz2 rfl (by decide) _ _ _ rfl (hown'.alloc _) ⟨wi.heap.size,0,none⟩ 1 1 [.string T] rfl rfl (cell_one_new _ _ _) ?c2 ?c3 ?c4 ?c5 ?_)
     case c2=>first | rfl | (intro u hu;simp at hu;subst hu;rfl)
     case c3=>unfold maxLen;omega
     case c4=>omega
     case c5=>first | omega | (simp;omega)
     intro v' w8 hown8 hgrow _
     rw [<-HST.out] at hown8
     have hb8:Below w.heap.size w w8:=(hb.out.alloc hsz _).grown hgrow (by simp;omega) (fun j hj=>(hown'.lt j hj).1)
     have HO8:=Shut.mk hown8
     have HB8:=Shut.mk hb8
     clear hgrow hown8 hb8 hown' hb HST
     go_wp2_with fail
     go_roundw
     case rel=>exact ⟨k+1,v',rfl,by go_num,by omega,HO8,HB8⟩
     case measure=>simp [intOf];omega
  ·have e:k=n:=by omega
   have hlt':¬ (k:Int)<(n:Int):=by omega
   have hfin:SAns wo v (X.map fun row=>accB row L L.length) w.heap.size wo.heap.size:=own_sans (n:=k) (by rw [List.length_map];have:=HX.out.1;omega) (by
    have h:=hown.out
    rw [List.take_of_length_le (by rw [List.length_map];have:=HX.out.1;omega)] at h
    exact h)
   have HFIN:=Shut.mk hfin
   clear hfin hown e
   go_wp2_with fail
   go_ret
   exact ⟨v,rfl,HFIN.out,hb.out⟩
set_option maxRecDepth 100000 in
set_option maxHeartbeats 4000000 in
theorem implApplyMU (w:World) (v u:Value) (X:List (List Int)) (L:List ByteArray) (lo hi lo' hi':Nat) (hs:MSee w v X lo hi) (ht:SSee w u L lo' hi') (hf:MFit X) (hg:UFit L):Calls Tw.prog 46 #[v,u] w fun e w'=>SPost (appX X L) w e w':=by
 have hs':=hs
 obtain ⟨a1,cap1,ss,rfl,hr1,hm1⟩:=hs
 obtain ⟨a2,cap2,rfl,hm2⟩:=ht
 have hl1:ss.length=X.length:=by rw [<-hr1,rws_len]
 rw [hl1] at hs' ⊢
 have hc1:=fun W (hW:Below w.heap.size w W)=>implMatrixOk W _ X lo hi (hs'.below hW) hf
 cases h1:matOk X with
 | false =>
  have HX:Hid (appX X L=[]):=appX_no (fun h=>by rw [h1] at h;cases h.1)
  rw [h1] at hc1
  have HC1:Hid _:=hc1
  clear hc1 hm1 hm2 h1 hs' hf hg
  go_enter Tw.func46,Tw.ntmps46
  go_wp2_with fail
  refine (HC1.out _ (Below.refl _ _)).mono ?_
  rintro e w1 ⟨rfl,hb1⟩
  have HB:Hid (Below w.heap.size w w1):=hb1
  clear hb1
  go_wp2_with fail
  go_ret
  exact ⟨_,rfl,by rw [HX.out];exact SAns.empty _ _ _ _ _,HB.out⟩
 | true =>
  rw [h1] at hc1
  obtain ⟨⟨hx1,hx8⟩,⟨hcx1,hcx8⟩,_⟩:=matOk_iff h1
  obtain ⟨b1,o1,rfl,lb1,hrow1⟩:=rows_in hm1 hr1 h1
  by_cases h3:colsOf X=L.length
  ·obtain ⟨b2,o2,rfl,lb2,hrow2⟩:=units_in hm2 (by omega)
   have hX:appX X L=X.map fun row=>accB row L L.length:=if_pos ⟨h1,h3⟩
   rw [hX]
   rw [h3] at hrow1
   exact applyI_walk X L X.length L.length b1 o1 b2 o2 cap1 cap2 w hx1 hx8 (by omega) (by omega) rfl rfl ⟨lb1,hrow1⟩ ⟨lb2,hrow2⟩ (fun x hx=>hg.2 x hx) hc1
  ·have HX:Hid (appX X L=[]):=appX_no (fun h=>h3 h.2)
   obtain ⟨br,or,cr,d0',lr,_⟩:=hrow1 0 (by omega)
   have HD0:Hid (∀ W:World,Below w.heap.size w W->W.cell? ⟨b1,o1,none⟩=some (.slice (some ⟨br,or,none⟩) (colsOf X) cr)):=fun W hW=>(hW.cell (p:=⟨b1,o1+0,none⟩) lb1).trans d0'
   have HC1:Hid (∀ W:World,Below w.heap.size w W->Calls Tw.prog 69 #[.slice (some ⟨b1,o1,none⟩) X.length cap1] W fun e w'=>e = .returned (.bool true)/\Below W.heap.size W w'):=hc1
   have hne:((colsOf X:Int) != (L.length:Int))=true:=by rw [bne_iff_ne];omega
   have n0:(0:Int)<(X.length:Int):=by omega
   clear hc1 hm1 hm2 hs' d0' lr hrow1 h1 h3 hr1 hl1 hf hg
   go_enter Tw.func46,Tw.ntmps46
   go_wp2_with fail
   refine (HC1.out _ (Below.refl _ _)).mono ?_
   rintro e w1 ⟨rfl,hb1⟩
   have hbw1:Below w.heap.size w w1:=hb1
   have d0:=HD0.out w1 hbw1
   have HB:Hid (Below w.heap.size w w1):=hbw1
   clear hb1 hbw1
   go_wp2_with fail
   go_ret
   exact ⟨_,rfl,by rw [HX.out];exact SAns.empty _ _ _ _ _,HB.out⟩
theorem implApplyM (w:World) (v u:Value) (X:List (List Int)) (L:List ByteArray) (lo hi lo' hi':Nat) (hs:MSee w v X lo hi) (ht:SSee w u L lo' hi') (hf:MFit X) (hg:TFit L):Calls Tw.prog 46 #[v,u] w fun e w'=>SPost (appX X L) w e w':=implApplyMU w v u X L lo hi lo' hi' hs ht hf hg.u
end Go.Proofs.YteaieagkjepgiaaGreatDoorT
/- . -/
namespace Go.Proofs.YteaieagkjepgiaaGreatDoorT
set_option maxRecDepth 100000
open Go.RowKit
open W (B8 Mx)
attribute [local go_sem ↓] Go.wp_at_zero Go.wp_at_succ
attribute [local irreducible] W.gm W.xs W.mm W.gi mx matOk addB mulT appX codeX encX
theorem xsum_most {X:List (List Int)} {m:Nat} (h:∀ x ∈ X,x.length<=m):xsum X<=X.length*m:=by
 induction X with
 | nil=>simp [xsum]
 | cons x X ih =>
  simp only [xsum,List.length_cons,Nat.add_mul,Nat.one_mul]
  have h1:=h x (by simp)
  have h2:=ih (fun y hy=>h y (by simp [hy]))
  omega
theorem codeX_small {s:Int} (h:schOk s=true):MFit (codeX s):=by
 obtain ⟨b1,b2,b3,b4⟩:=sch_bounds h
 have h1:=codeX_len h
 have h2:=xsum_most (X:=codeX s) (m:=4) (fun x hx=>by have:=(codeX_rows h x hx).1;omega)
 unfold MFit
 omega
theorem SAns.wide {w:World} {v:Value} {L:List ByteArray} {lo hi lo' hi':Nat} (h:SAns w v L lo hi) (h1:lo'<=lo) (h2:hi<=hi'):SAns w v L lo' hi':=by
 obtain ⟨a,cap,e,hc,q⟩:=h
 refine ⟨a,cap,e,hc,?_⟩
 rcases q with rfl | ⟨g,rfl,q1,q2,q3⟩
 ·exact .inl rfl
 ·exact .inr ⟨g,rfl,by omega,by omega,q3⟩
set_option maxRecDepth 100000 in
set_option maxHeartbeats 4000000 in
theorem implEncode (w:World) (u:Value) (L:List ByteArray) (lo hi:Nat) (s:Int) (hu:SSee w u L lo hi) (hf:TFit L):Calls Tw.prog 20 #[.int .i64 s,u] w fun e w'=>TPost (encX s L) w e w':=by
 have HS:=Shut.mk (fun W=>implSchemaOf s W)
 unfold SchB at HS
 have HU:=Shut.mk hu
 have HF:=Shut.mk hf
 have hn:L.length<=1048576:=by unfold TFit at hf;omega
 obtain ⟨a,cap,rfl,_⟩:=hu
 clear hf
 cases h:schOk s with
 | false =>
  have HE:=Shut.mk (enc_not (s:=s) (L:=L) (fun q=>by rw [h] at q;cases q))
  rw [h] at HS
  clear h
  go_enter Tw.func20,Tw.ntmps20
  go_wp2_with fail
  refine (HS.out _).mono ?_
  rintro e w1 ⟨rfl,hb⟩
  have HB:=Shut.mk hb
  clear hb
  go_wp2_with fail
  go_ret2
  exact tpost_no HE.out rfl HB.out
 | true =>
  rw [h] at HS
  have hb:=sch_bounds h
  have HK:=Shut.mk h
  have HEN:=Shut.mk (fun (q:¬ (L.length=schK s/\mostL L<=200))=>enc_not (s:=s) (L:=L) (fun _ q1 q2=>q ⟨q1,q2⟩))
  have HEY:=Shut.mk (fun (q1:L.length=schK s) (q2:mostL L<=200)=>enc_is h q1 q2)
  clear h
  generalize schK s=k at *
  generalize schM s=m at *
  by_cases hl:L.length=k
  ·have hne:((k:Int) != (k:Int))=false:=by simp
   have hmx:=most_fit HF.out
   have HLO:=Shut.mk (fun W (hW:Below w.heap.size w W)=>implLongest (HU.out.below hW) HF.out)
   rw [hl] at HLO ⊢
   by_cases h2:mostL L<=200
   ·have HE:=Shut.mk (HEY.out hl h2)
    have h3:¬ (200:Int)<(mostL L:Nat):=by omega
    generalize mostL L=M at *
    have HC:=Shut.mk (fun W=>implCodeOf s W)
    clear HEN HEY
    go_enter Tw.func20,Tw.ntmps20
    go_wp2_with fail
    refine (HS.out _).mono ?_
    rintro e w1 ⟨rfl,hb1⟩
    have HB1:=Shut.mk hb1
    clear hb1
    go_wp2_with fail
    refine (HLO.out _ HB1.out).mono ?_
    rintro e w2 ⟨rfl,hb2⟩
    have HB2:=Shut.mk (HB1.out.trans (hb2.mono HB1.out.size))
    clear hb2 HB1 HLO
    go_wp2_with fail
    refine (HC.out _).mono ?_
    rintro e w3 ⟨v3,rfl,ha3,hb3⟩
    have HB3:=Shut.mk (HB2.out.trans (hb3.mono HB2.out.size))
    have HA:=Shut.mk (implApplyM w3 v3 _ (codeX s) L _ _ _ _ ha3.see (HU.out.below HB3.out) (codeX_small HK.out) HF.out)
    rw [hl] at HA
    clear ha3 hb3 HC HB2
    go_wp2_with fail
    refine HA.out.mono ?_
    rintro e w4 ⟨v4,rfl,ha4,hb4⟩
    have HR:=Shut.mk (show TPost (encX s L) w (.returned (.tuple #[v4,.bool true])) w4 from ⟨v4,by rw [HE.out],by rw [HE.out];exact ha4.wide HB3.out.size (Nat.le_refl _),HB3.out.trans (hb4.mono HB3.out.size)⟩)
    clear ha4 hb4 HA
    go_wp2_with fail
    go_ret2
    exact HR.out
   ·have HE:=Shut.mk (HEN.out (fun q=>h2 q.2))
    have h3:(200:Int)<(mostL L:Nat):=by omega
    generalize mostL L=M at *
    clear HEN HEY
    go_enter Tw.func20,Tw.ntmps20
    go_wp2_with fail
    refine (HS.out _).mono ?_
    rintro e w1 ⟨rfl,hb1⟩
    have HB1:=Shut.mk hb1
    clear hb1
    go_wp2_with fail
    refine (HLO.out _ HB1.out).mono ?_
    rintro e w2 ⟨rfl,hb2⟩
    have HB2:=Shut.mk (HB1.out.trans (hb2.mono HB1.out.size))
    clear hb2 HB1 HLO
    go_wp2_with fail
    go_ret2
    exact tpost_no HE.out rfl HB2.out
  ·have HE:=Shut.mk (HEN.out (fun q=>hl q.1))
   have hne:((L.length:Int) != (k:Int))=true:=by rw [bne_iff_ne];omega
   clear HEN HEY
   go_enter Tw.func20,Tw.ntmps20
   go_wp2_with fail
   refine (HS.out _).mono ?_
   rintro e w1 ⟨rfl,hb1⟩
   have HB1:=Shut.mk hb1
   clear hb1
   go_wp2_with fail
   go_ret2
   exact tpost_no HE.out rfl HB1.out
end Go.Proofs.YteaieagkjepgiaaGreatDoorT
/- . -/
namespace Go.Proofs.YteaieagkjepgiaaGreatDoorT
set_option maxRecDepth 100000
open Go.RowKit
attribute [local go_sem ↓] Go.wp_at_zero Go.wp_at_succ
end Go.Proofs.YteaieagkjepgiaaGreatDoorT
/- . -/
namespace Go.Proofs.YteaieagkjepgiaaGreatDoorT
set_option maxRecDepth 100000
open Go.RowKit
end Go.Proofs.YteaieagkjepgiaaGreatDoorT
/- . -/
namespace Go.Proofs.YteaieagkjepgiaaGreatDoorT
set_option maxRecDepth 100000
open Go.RowKit
attribute [local go_sem ↓] Go.wp_at_zero Go.wp_at_succ
end Go.Proofs.YteaieagkjepgiaaGreatDoorT
/- . -/
namespace Go.Proofs.YteaieagkjepgiaaGreatDoorT
set_option maxRecDepth 100000
open Go.RowKit
attribute [local irreducible] schK schM schOk groupN placeX cutX tsum
end Go.Proofs.YteaieagkjepgiaaGreatDoorT
/- . -/
namespace Go.Proofs.YteaieagkjepgiaaGreatDoorT
set_option maxRecDepth 100000
open Go.RowKit
attribute [local go_sem ↓] Go.wp_at_zero Go.wp_at_succ
theorem implSch (s:Int) (w:World):Calls Tw.prog 41 #[.int .i64 s] w fun e w'=>SchPost s w e w':=by
 cases h:schOk s with
 | true =>
  obtain rfl | rfl | rfl:=sch_cases h
  all_goals
   clear h
   go_enter Tw.func41,Tw.ntmps41
   go_wp2_with fail
   go_ret3
   exact ⟨rfl,rfl⟩
 | false =>
  obtain ⟨h1,h2,h3⟩:=sch_no h
  obtain ⟨e1,e2⟩:=sch_zero h
  unfold SchPost
  rw [e1,e2,h]
  clear h e1 e2
  go_enter Tw.func41,Tw.ntmps41
  go_wp2_with fail
  go_ret3
  exact ⟨rfl,rfl⟩
theorem implSize (s:Int) (w:World):Calls Tw.prog 42 #[.int .i64 s] w fun e w'=>e = .returned (.int .i64 (groupN s:Nat))/\w'=w:=by
 have HS:=Shut.mk (fun W=>implSch s W)
 unfold SchPost at HS
 have hk:schK s<=4:=by
  cases h:schOk s with
  | true=>exact (sch_bounds h).2.1
  | false=>rw [(sch_zero h).1];omega
 have hg:((groupN s:Nat):Int)=(schK s:Int)*4*2:=by unfold groupN;push_cast;omega
 generalize schOk s=ok at *
 generalize schM s=m at *
 generalize schK s=k at *
 have HG:=Shut.mk hg
 clear hg
 go_enter Tw.func42,Tw.ntmps42
 go_wp2_with fail
 refine (HS.out _).mono ?_
 rintro e w1 ⟨rfl,rfl⟩
 go_wp2_with fail
 go_ret
 exact ⟨by rw [HG.out];first | rfl | (simp;done) | (congr 2;omega),rfl⟩
end Go.Proofs.YteaieagkjepgiaaGreatDoorT
/- . -/
namespace Go.Proofs.YteaieagkjepgiaaGreatDoorT
set_option maxRecDepth 100000
open Go.RowKit
open Go.Proofs.YteaieagkjepgiaaGreatDoor (cellV cellsF Rn Tend twin_good tw tw24 cellsT RcReg wp_take wp_shut)
def cellsK (k n:Nat):Nat->Nat->List Value
 | 0,_=>[]
 | f+1,i=>if i<n then cellV (i:Nat) (min (i+4) n:Nat) (unitAt k i:Nat) (placeIn k i:Nat)::cellsK k n f (i+4) else []
theorem cells_is {s:Int} (hs:schOk s=true) {n:Nat} (hn:n<=32):∀ (f i:Nat),i+4*f<=60->cellsF s n f i=cellsK (schK s) n f i
 | 0,_,_=>rfl
 | f+1,i,h=>by
  rw [cellsF,cellsK]
  by_cases e:i<n
  ·rw [if_pos e,if_pos e,cells_is hs hn f (i+4) (by omega)]
   obtain ⟨p1,p2⟩:=Go.Proofs.YteaieagkjepgiaaGreatDoor.placeX_is (s:=s) (i:=i) hs (by omega)
   rw [p1,p2]
   rfl
  ·rw [if_neg e,if_neg e]
theorem unit_same {k i d:Nat} (hk:k=2\/k=3\/k=4) (h4:i % 4=0) (hd:d<4):unitAt k (i+d)=unitAt k i:=by
 unfold unitAt
 rcases hk with rfl | rfl | rfl <;> omega
theorem ext_more {t:ByteArray} {i d:Nat} (h:i+d<t.size) (x:ByteArray):(x++t.extract i (i+d))++t.extract (i+d) (i+d+1)=x++t.extract i (i+d+1):=by
 apply ByteArray.ext
 simp [ByteArray.data_extract]
theorem cut_cell {k:Nat} (hk:k=2\/k=3\/k=4) {t:ByteArray} {i:Nat} (h4:i % 4=0):∀ d,d<=4->i+d<=t.size->(cutL k t i).set (unitAt k i) ((cutL k t i).getD (unitAt k i) ⟨#[]⟩++t.extract i (i+d))=cutL k t (i+d)
 | 0,_,_=>by
  have e:(cutL k t i).getD (unitAt k i) ⟨#[]⟩++t.extract i (i+0)=(cutL k t i).getD (unitAt k i) ⟨#[]⟩:=by
   apply ByteArray.ext
   simp [ByteArray.data_extract]
  rw [e,Nat.add_zero]
  have hu:unitAt k i<(cutL k t i).length:=by rw [cutL_len];exact unit_lt (by omega) i
  rw [show (cutL k t i).getD (unitAt k i) ⟨#[]⟩=(cutL k t i)[unitAt k i] by simp [List.getD,hu]]
  exact List.set_getElem_self hu
 | d+1,hd,hz=>by
  have ih:=cut_cell hk (t:=t) h4 d (by omega) (by omega)
  have hu:unitAt k i<(cutL k t i).length:=by rw [cutL_len];exact unit_lt (by omega) i
  have st:=cutL_step (k:=k) (by omega) t (i+d)
  rw [<-byte_cat (show i+d<t.size by omega),unit_same hk h4 (by omega),<-ih] at st
  rw [show i+(d+1)=i+d+1 by omega,<-st]
  rw [List.set_set]
  congr 1
  rw [<-ext_more (by omega)]
  congr 1
  simp [List.getD,hu]
theorem twRc {ops:Array Oper} {slot pair flag:Nat} (hsz:ops.size=2) (h0:(ops[0]?).map (fun o=>(o.guard,o.dst,o.op))=some (none,some pair,.recv 73 (.tmp slot) true)) (h1:(ops[1]?).map (fun o=>(o.guard,o.dst,o.op))=some (none,some flag,.extract (.tmp pair) 1)):RcReg Tw.prog ops slot pair flag Go.Proofs.YteaieagkjepgiaaGreatDoor.z48:=by
 obtain ⟨o,a1,a2,a3,a4⟩:=Go.Proofs.YteaieagkjepgiaaGreatDoor.of_map h0
 obtain ⟨p,b1,b2,b3,b4⟩:=Go.Proofs.YteaieagkjepgiaaGreatDoor.of_map h1
 exact ⟨hsz,⟨o,_,_,_,a1,a2,a3,a4,Go.Proofs.YteaieagkjepgiaaGreatDoor.run_under Tw.underlying73,Go.Proofs.YteaieagkjepgiaaGreatDoor.run_zero (P:=Tw.prog) Go.Proofs.YteaieagkjepgiaaGreatDoor.info48z⟩,⟨p,b1,b2,b3,b4⟩⟩
theorem twCells (s:Int) (n:Nat) (hn:n<=32) (hs:schOk s=true) (w:World):Calls Tw.prog 43 #[.int .i64 s,.int .i64 (n:Int)] w fun e w'=>e = .returned (.chan (some w.heap.size))/\∃ m,w'=w.alloc (.chan 32 (cellsK (schK s) n 9 0).toArray true m 0 false):=by
 intro cs
 obtain ⟨fr',w',⟨q1,q2,q3,q4,q5,m,q6⟩,hr⟩:=twin_good s n hn hs w
 obtain ⟨k,e⟩:=hr cs w.tape
 refine ⟨.returned (.chan (some w.heap.size)),w',fr',⟨rfl,m,by rw [q6,cells_is hs hn 9 0 (by omega)]⟩,⟨k,?_⟩,q1,q2,q3,q4,cellsT,?_,?_⟩
 ·have e2:(Go.Proofs.YteaieagkjepgiaaGreatDoor.Rt w' w.tape)=w':=by rw [q6];rfl
  rw [e2] at e
  exact e
 ·rw [q1];exact tw24
 ·have hr2:(results cellsT fr'.tmps)=pure (.chan (some w.heap.size)):=by
   rw [<-q5]
   simp [-Array.getD_eq_getD_getElem?,results,cellsT]
  rw [hr2]
  rfl
end Go.Proofs.YteaieagkjepgiaaGreatDoorT
