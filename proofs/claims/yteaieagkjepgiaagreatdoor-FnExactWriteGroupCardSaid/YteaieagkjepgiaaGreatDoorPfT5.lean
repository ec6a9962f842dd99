/- Texts of ours, laid one behind the other: TMatK, TCodA, TCodB, TCodC, TMemA, TUnRm. -/
import Derived.Test.YteaieagkjepgiaaGreatDoorPfT4
import Derived.Deep.AppendLies
import Derived.Deep.OwnRows
import Derived.Deep.RegionLaw
import Derived.Deep.RegionHeld3
set_option linter.unusedVariables false
set_option linter.unusedSimpArgs false
/- . -/
namespace Go.Proofs.YteaieagkjepgiaaGreatDoorT
set_option maxRecDepth 100000
open Go.RowKit
open W (B8 Mx)
attribute [local go_sem ↓] Go.wp_at_zero Go.wp_at_succ
attribute [local irreducible] W.gm W.xs W.mm W.gi mx addB mulT
def accB (row:List Int) (L:List ByteArray):Nat->ByteArray
 | 0=>⟨#[]⟩
 | k+1=>addB (accB row L k) (mulT (g8 (row.getD k 0)) (L.getD k ⟨#[]⟩))
def appX (X:List (List Int)) (L:List ByteArray):List ByteArray:=if matOk X=true/\colsOf X=L.length then X.map fun row=>accB row L L.length else []
theorem accB_size (row:List Int) (L:List ByteArray) {n:Nat} (h:∀ x ∈ L,x.size<=n):∀ k,(accB row L k).size<=n
 | 0=>Nat.zero_le _
 | k+1=>by
  unfold accB
  rw [addB_size,mulT_size]
  have h1:=accB_size row L h k
  have h2:(L.getD k ⟨#[]⟩).size<=n:=by
   by_cases hk:k<L.length
   ·exact h _ (by simp [List.getD,hk])
   ·rw [List.getD_eq_getElem?_getD,List.getElem?_eq_none (by omega)];exact Nat.zero_le _
  omega
theorem appX_no {X:List (List Int)} {L:List ByteArray} (h:¬ (matOk X=true/\colsOf X=L.length)):appX X L=[]:=if_neg h
theorem cell_in {w:World} {p:Addr} {v:Value} (h:w.cell? p=some v):p.block<w.heap.size:=by
 unfold World.cell? at h
 cases hb:w.heap[p.block]? with
 | none=>rw [hb] at h;simp at h
 | some o=>exact (Array.getElem?_eq_some_iff.1 hb).1
theorem cells3 {w w':World} {p q r:Addr} {a b c:Value} (h:w.cell? p=some a/\w.cell? q=some b/\w.cell? r=some c) (hb:Below w.heap.size w w'):w'.cell? p=some a/\w'.cell? q=some b/\w'.cell? r=some c:=
 ⟨(hb.cell (p:=p) (cell_in h.1)).trans h.1,(hb.cell (p:=q) (cell_in h.2.1)).trans h.2.1,(hb.cell (p:=r) (cell_in h.2.2)).trans h.2.2⟩
set_option maxRecDepth 100000 in
set_option maxHeartbeats 4000000 in
theorem applyM_walk (X:List (List Int)) (L:List ByteArray) (n m b1 o1 b2 o2 cap1 cap2:Nat) (w:World) (hn1:1<=n) (hn8:n<=8) (hm1:1<=m) (hm8:m<=8) (hxl:X.length=n) (hll:L.length=m)
  (hR:b1<w.heap.size/\∀ i,i<n->∃ b' o' cp,w.cell? ⟨b1,o1+i,none⟩=some (.slice (some ⟨b',o',none⟩) m cp)/\b'<w.heap.size/\∀ j,j<m->w.cell? ⟨b',o'+j,none⟩=some (.int .i64 ((X.getD i []).getD j 0)))
  (hU:b2<w.heap.size/\∀ j,j<m->w.cell? ⟨b2,o2+j,none⟩=some (.string (L.getD j ⟨#[]⟩))) (hf:∀ x ∈ L,x.size<=1048576)
  (hc1:∀ W:World,Below w.heap.size w W->Calls Tw.prog 60 #[.slice (some ⟨b1,o1,none⟩) n cap1] W fun e w'=>e = .returned (.bool true)/\Below W.heap.size W w') :
  Calls Tw.prog 33 #[.slice (some ⟨b1,o1,none⟩) n cap1,.slice (some ⟨b2,o2,none⟩) m cap2] w fun e w'=>SPost (X.map fun row=>accB row L L.length) w e w':=by
 obtain ⟨i0,hi0,hz0,hz1,hz2⟩:=info_parts infoTextG
 have hal:Below w.heap.size w (w.alloc (.cells #[] 9)):=(Below.refl _ _).alloc (Nat.le_refl _) _
 have HC1:Hid _:=hc1
 have HR:Shut (b1<w.heap.size/\∀ i,i<n->∃ b' o' cp,w.cell? ⟨b1,o1+i,none⟩=some (.slice (some ⟨b',o',none⟩) m cp)/\b'<w.heap.size/\∀ j,j<m->w.cell? ⟨b',o'+j,none⟩=some (.int .i64 ((X.getD i []).getD j 0))):=⟨hR⟩
 have HU:Shut (b2<w.heap.size/\∀ j,j<m->w.cell? ⟨b2,o2+j,none⟩=some (.string (L.getD j ⟨#[]⟩))):=⟨hU⟩
 have HF:Shut (∀ x ∈ L,x.size<=1048576):=⟨hf⟩
 have HX:Shut (X.length=n/\L.length=m):=⟨hxl,hll⟩
 have hne:((m:Int) != (m:Int))=false:=by simp
 have n0:(0:Int)<(n:Int):=by omega
 clear hc1 hR hU hf hxl hll
 go_enter Tw.func33,Tw.ntmps33
 go_wp2_with fail
 refine (HC1.out _ hal).mono ?_
 rintro e w1 ⟨rfl,hb1⟩
 have hbw1:Below w.heap.size w w1:=hal.trans (hb1.mono hal.size)
 obtain ⟨br,or,cr,d0',lr,_⟩:=HR.out.2 0 (by omega)
 have d0:w1.cell? ⟨b1,o1,none⟩=some (.slice (some ⟨br,or,none⟩) m cr):=(hbw1.cell (p:=⟨b1,o1+0,none⟩) HR.out.1).trans d0'
 have HOWN:Shut (w1.ownsRow w.heap.size 9 1 (.slice (some ⟨w.heap.size,0,none⟩) 0 0) 0 []):=⟨(World.ownsRow_made w #[] 0 (Nat.le_refl _) (by decide) rfl).kept (row:=none) ⟨hb1.os,hb1.tape,hb1.output,hb1.size,fun k hk _=>hb1.block k hk⟩ (Classical.em _)⟩
 have HB1:Shut (Below w.heap.size w w1):=⟨hbw1⟩
 clear hb1 hbw1 HC1 d0' hal
 go_wp2_with fail
 go_loopw [5,6] (fun v i wr=>∃ (k:Nat) (vv:Value),vv=v/\i = .int .i64 k/\k<=n/\Shut (wr.ownsRow w.heap.size 9 1 vv k (tv ((X.map fun row=>accB row L L.length).take k)))/\Shut (Below w.heap.size w wr)) (fun _ i _=>n - (intOf i).toNat)
 case atStart=>exact ⟨0,_,rfl,rfl,by omega,HOWN,HB1⟩
 case round =>
  clear HOWN HB1 d0 lr
  obtain ⟨k,v,rfl,rfl,hk,hown,hb⟩:=hrel
  obtain ⟨wo,rfl⟩:∃ wo,wo=wr:=⟨_,rfl⟩
  by_cases hlt:k<n
  ·have hlt':(k:Int)<(n:Int):=by omega
   have k0:(0:Int)<=(k:Int):=by omega
   obtain ⟨r,hre⟩:∃ r,r=X.getD k []:=⟨_,rfl⟩
   have HRE:Shut (r=X.getD k []):=⟨hre⟩
   clear hre
   go_wp2_with fail
   go_loopw [7,8] (fun s j wq=>∃ (t:Nat),j = .int .i64 t/\t<=m/\s = .string (accB r L t)/\Shut (wq.ownsRow w.heap.size 9 1 v k (tv ((X.map fun row=>accB row L L.length).take k)))/\Shut (Below w.heap.size w wq)) (fun _ j _=>m - (intOf j).toNat)
   case atStart=>exact ⟨0,rfl,by omega,rfl,hown,hb⟩
   case round =>
    clear hown hb
    obtain ⟨t,rfl,ht,rfl,hown,hb⟩:=hrel
    obtain ⟨wi,rfl⟩:∃ wi,wi=wr:=⟨_,rfl⟩
    by_cases htl:t<m
    ·have htl':(t:Int)<(m:Int):=by omega
     have t0:(0:Int)<=(t:Int):=by omega
     obtain ⟨b',o',cp,e1,l1,e2⟩:=HR.out.2 k hlt
     have d1:=(hb.out.cell (p:=⟨b1,o1+k,none⟩) HR.out.1).trans e1
     have d2:=(hb.out.cell (p:=⟨b',o'+t,none⟩) l1).trans (e2 t htl)
     have d3:=(hb.out.cell (p:=⟨b2,o2+t,none⟩) HU.out.1).trans (HU.out.2 t htl)
     rw [<-HRE.out] at d2
     have hsz:=hb.out.size
     have l2:b1<wi.heap.size:=Nat.lt_of_lt_of_le HR.out.1 hsz
     have l3:b2<wi.heap.size:=Nat.lt_of_lt_of_le HU.out.1 hsz
     have l4:b'<wi.heap.size:=Nat.lt_of_lt_of_le l1 hsz
     have hst:accB r L (t+1)=addB (accB r L t) (mulT (g8 (r.getD t 0)) (L.getD t ⟨#[]⟩)):=rfl
     have hz1:=accB_size r L HF.out t
     have hz2:=HF.out (L.getD t ⟨#[]⟩) (by have:=HX.out.2;simp [List.getD,show t<L.length by omega])
     have hz3:=mulT_size (g8 (r.getD t 0)) (L.getD t ⟨#[]⟩)
     have HM:=Shut.mk fun W=>specMulText (r.getD t 0) (L.getD t ⟨#[]⟩) W hz2
     have HA:=Shut.mk fun W=>specAddText (accB r L t) (mulT (g8 (r.getD t 0)) (L.getD t ⟨#[]⟩)) W hz1 (by omega)
     generalize mulT (g8 (r.getD t 0)) (L.getD t ⟨#[]⟩)=M at HM HA hst
     generalize r.getD t 0=x at *
     generalize L.getD t ⟨#[]⟩=u at *
     have HST:=Shut.mk hst
     clear hst hz1 hz2 hz3 e1 e2
     go_wp2_with fail
     have tokA:True:=trivial
     have tokB:True:=trivial
     go_region_held3 (fun w'=>w'.cell? ⟨b1,o1+k,none⟩=some (.slice (some ⟨b',o',none⟩) m cp)/\w'.cell? ⟨b',o'+t,none⟩=some (.int .i64 x)/\w'.cell? ⟨b2,o2+t,none⟩=some (.string u))
      (first | assumption | (exact cells3 (by assumption) hbB) | (exact cells3 (by assumption) hbA) | go_keep)
      (first
       | (go_at_call 61;have _t:=tokA;refine (HM.out _).mono ?_;rintro e w6 ⟨rfl,hbA⟩;clear _t tokA)
       | (go_at_call 32;have _t:=tokB;refine (HA.out _).mono ?_;rintro e w7 ⟨rfl,hbB⟩;clear _t tokB))
     all_goals
      have hbx:Below wi.heap.size wi w7:=((Below.drew (Below.refl wi.heap.size wi)).trans hbA).trans (hbB.mono hbA.size)
      have HO:=Shut.mk (hown.out.kept (row:=none) ⟨hbx.os,hbx.tape,hbx.output,hbx.size,fun k hk _=>hbx.block k hk⟩ (Classical.em _))
      have HB2:=Shut.mk (hb.out.trans (hbx.mono hb.out.size))
      clear hbx hbA hbB hown hb
      go_wp2_with fail
      go_roundw
      case rel=>exact ⟨t+1,by go_num,by omega,by rw [HST.out],HO,HB2⟩
      case measure=>simp [intOf];omega
    ·have e:t=m:=by omega
     have htl':¬ (t:Int)<(m:Int):=by omega
     have hsz:=hb.out.size
     have hown':=hown.out
     have HST:Shut (tv ((X.map fun row=>accB row L L.length).take (k+1))=tv ((X.map fun row=>accB row L L.length).take k)++[.string (accB r L t)]):=⟨by
      have hkx:k<X.length:=by have:=HX.out.1;omega
      rw [List.take_succ_eq_append_getElem (by rw [List.length_map];exact hkx),<-tv_snoc,List.getElem_map,HRE.out,e,HX.out.2]
      congr 3
      simp [List.getD,hkx]⟩
     clear e hown
     generalize accB r L t=T at *
     go_wp2_with (at_builtin;refine wpList_append_own _ rfl _ _ 35 rfl w.heap.size 9 i0 (.string ⟨#[]⟩) 1 16 Tw.underlying35 hi0 hz0 hz1 hz2 rfl (by decide) _ _ _ rfl (hown'.alloc _) ⟨wi.heap.size,0,none⟩ 1 1 [.string T] rfl rfl (cell_one_new _ _ _) ?c2 ?c3 ?c4 ?c5 ?_)
     case c2=>first | rfl | (intro u hu;simp at hu;subst hu;rfl)
     case c3=>unfold maxLen;omega
     case c4=>omega
     case c5=>first | omega | (simp;omega)
     intro v' w8 hown8 hgrow _
     rw [<-HST.out] at hown8
     have hb8:Below w.heap.size w w8:=(hb.out.alloc hsz _).grown hgrow (by simp;omega) (fun j hj=>(hown'.lt j hj).1)
     have HO8:=Shut.mk hown8
     have HB8:=Shut.mk hb8
     clear hgrow hown8 hb8 hown' hb HST
     go_wp2_with fail
     go_roundw
     case rel=>exact ⟨k+1,v',rfl,by go_num,by omega,HO8,HB8⟩
     case measure=>simp [intOf];omega
  ·have e:k=n:=by omega
   have hlt':¬ (k:Int)<(n:Int):=by omega
   have hfin:SAns wo v (X.map fun row=>accB row L L.length) w.heap.size wo.heap.size:=own_sans (n:=k) (by rw [List.length_map];have:=HX.out.1;omega) (by
    have h:=hown.out
    rw [List.take_of_length_le (by rw [List.length_map];have:=HX.out.1;omega)] at h
    exact h)
   have HFIN:=Shut.mk hfin
   clear hfin hown e
   go_wp2_with fail
   go_ret
   exact ⟨v,rfl,HFIN.out,hb.out⟩
theorem rows_in {w:World} {a:Option Addr} {ss:List SR} {lo hi:Nat} {X:List (List Int)} (h:MR w a ss lo hi) (hX:rws ss=X) (hok:matOk X=true) :
  ∃ b off,a=some ⟨b,off,none⟩/\b<w.heap.size/\∀ i,i<X.length->∃ b' o' cp,w.cell? ⟨b,off+i,none⟩=some (.slice (some ⟨b',o',none⟩) (colsOf X) cp)/\b'<w.heap.size/\∀ j,j<colsOf X->w.cell? ⟨b',o'+j,none⟩=some (.int .i64 ((X.getD i []).getD j 0)):=by
 have hl:ss.length=X.length:=by rw [<-hX,rws_len]
 obtain ⟨h1,h2,h3⟩:=matOk_iff hok
 obtain ⟨b,off,e,hb,hc⟩:=h.at (by omega)
 refine ⟨b,off,e,hb,fun i hi=>?_⟩
 have his:i<ss.length:=by omega
 have hget:X.getD i []=ss[i].row:=by rw [<-hX,List.getD_eq_getElem?_getD];simp [rws,his]
 have hmem:ss[i].row ∈ X:=by rw [<-hX];exact List.mem_map.2 ⟨ss[i],List.getElem_mem his,rfl⟩
 have hlen:ss[i].row.length=colsOf X:=(h3 _ hmem).1
 obtain ⟨b',o',e',hb',hc'⟩:=crow_int (h.2 _ (List.getElem_mem his)).crow (by omega)
 have:=hc i his
 unfold srv at this
 rw [hlen,e'] at this
 exact ⟨b',o',ss[i].cap,this,hb',fun j hj=>by rw [hget];exact hc' j (by omega)⟩
theorem units_in {w:World} {a:Option Addr} {L:List ByteArray} {lo hi:Nat} (h:RRow w a (tv L) lo hi) (hp:0<L.length):∃ b off,a=some ⟨b,off,none⟩/\b<w.heap.size/\∀ j,j<L.length->w.cell? ⟨b,off+j,none⟩=some (.string (L.getD j ⟨#[]⟩)):=by
 obtain ⟨b,off,e,_,_,hb,hc⟩:=h (by rw [tv_len];exact hp)
 exact ⟨b,off,e,hb,fun j hj=>hc j _ (tv_get L j hj)⟩
set_option maxRecDepth 100000 in
set_option maxHeartbeats 4000000 in
theorem specApplyMU {w:World} {v u:Value} {X:List (List Int)} {L:List ByteArray} {lo hi lo' hi':Nat} (hs:MSee w v X lo hi) (ht:SSee w u L lo' hi') (hf:MFit X) (hg:UFit L):Calls Tw.prog 33 #[v,u] w fun e w'=>SPost (appX X L) w e w':=by
 have hs':=hs
 obtain ⟨a1,cap1,ss,rfl,hr1,hm1⟩:=hs
 obtain ⟨a2,cap2,rfl,hm2⟩:=ht
 have hl1:ss.length=X.length:=by rw [<-hr1,rws_len]
 rw [hl1] at hs' ⊢
 have hal:Below w.heap.size w (w.alloc (.cells #[] 9)):=(Below.refl _ _).alloc (Nat.le_refl _) _
 have hc1:=fun W (hW:Below w.heap.size w W)=>specMatrixOk (hs'.below hW) hf
 cases h1:matOk X with
 | false =>
  have HX:Hid (appX X L=[]):=appX_no (fun h=>by rw [h1] at h;cases h.1)
  rw [h1] at hc1
  have HC1:Hid _:=hc1
  clear hc1 hm1 hm2 h1 hs' hf hg
  go_enter Tw.func33,Tw.ntmps33
  go_wp2_with fail
  refine (HC1.out _ hal).mono ?_
  rintro e w1 ⟨rfl,hb1⟩
  have HB:Hid (Below w.heap.size w w1):=hal.trans (hb1.mono hal.size)
  clear hb1
  go_wp2_with fail
  go_ret
  exact ⟨_,rfl,by rw [HX.out];exact SAns.empty _ _ _ _ _,HB.out⟩
 | true =>
  rw [h1] at hc1
  obtain ⟨⟨hx1,hx8⟩,⟨hcx1,hcx8⟩,_⟩:=matOk_iff h1
  obtain ⟨b1,o1,rfl,lb1,hrow1⟩:=rows_in hm1 hr1 h1
  by_cases h3:colsOf X=L.length
  ·obtain ⟨b2,o2,rfl,lb2,hrow2⟩:=units_in hm2 (by omega)
   have hX:appX X L=X.map fun row=>accB row L L.length:=if_pos ⟨h1,h3⟩
   rw [hX]
   rw [h3] at hrow1
   exact applyM_walk X L X.length L.length b1 o1 b2 o2 cap1 cap2 w hx1 hx8 (by omega) (by omega) rfl rfl ⟨lb1,hrow1⟩ ⟨lb2,hrow2⟩ (fun x hx=>hg.2 x hx) hc1
  ·have HX:Hid (appX X L=[]):=appX_no (fun h=>h3 h.2)
   obtain ⟨br,or,cr,d0',lr,_⟩:=hrow1 0 (by omega)
   have HD0:Hid (∀ W:World,Below w.heap.size w W->W.cell? ⟨b1,o1,none⟩=some (.slice (some ⟨br,or,none⟩) (colsOf X) cr)):=fun W hW=>(hW.cell (p:=⟨b1,o1+0,none⟩) lb1).trans d0'
   have HC1:Hid (∀ W:World,Below w.heap.size w W->Calls Tw.prog 60 #[.slice (some ⟨b1,o1,none⟩) X.length cap1] W fun e w'=>e = .returned (.bool true)/\Below W.heap.size W w'):=hc1
   have hne:((colsOf X:Int) != (L.length:Int))=true:=by rw [bne_iff_ne];omega
   have n0:(0:Int)<(X.length:Int):=by omega
   clear hc1 hm1 hm2 hs' d0' lr hrow1 h1 h3 hr1 hl1 hf hg
   go_enter Tw.func33,Tw.ntmps33
   go_wp2_with fail
   refine (HC1.out _ hal).mono ?_
   rintro e w1 ⟨rfl,hb1⟩
   have hbw1:Below w.heap.size w w1:=hal.trans (hb1.mono hal.size)
   have d0:=HD0.out w1 hbw1
   have HB:Hid (Below w.heap.size w w1):=hbw1
   clear hb1 hbw1
   go_wp2_with fail
   go_ret
   exact ⟨_,rfl,by rw [HX.out];exact SAns.empty _ _ _ _ _,HB.out⟩
theorem specApplyM {w:World} {v u:Value} {X:List (List Int)} {L:List ByteArray} {lo hi lo' hi':Nat} (hs:MSee w v X lo hi) (ht:SSee w u L lo' hi') (hf:MFit X) (hg:TFit L):Calls Tw.prog 33 #[v,u] w fun e w'=>SPost (appX X L) w e w':=specApplyMU hs ht hf hg.u
end Go.Proofs.YteaieagkjepgiaaGreatDoorT
/- . -/
namespace Go.Proofs.YteaieagkjepgiaaGreatDoorT
set_option maxRecDepth 100000
open Go.RowKit
open W (B8 Mx)
def codeRow (k i:Nat):List Int:=(List.range k).map fun j=>((W.gi (g8 (((k+i) ^^^ j:Nat):Int))).toNat:Int)
def codeX (s:Int):List (List Int):=if schOk s=true then (List.range (schK s)).map (oneRow (schK s))++(List.range (schM s)).map (codeRow (schK s)) else []
theorem codeX_no {s:Int} (h:schOk s=false):codeX s=[]:=by unfold codeX;rw [if_neg (by rw [h];decide)]
theorem codeX_yes {s:Int} (h:schOk s=true):codeX s=(List.range (schK s)).map (oneRow (schK s))++(List.range (schM s)).map (codeRow (schK s)):=by unfold codeX;rw [if_pos h]
theorem codeRow_len (k i:Nat):(codeRow k i).length=k:=by simp [codeRow]
theorem codeX_len {s:Int} (h:schOk s=true):(codeX s).length=schK s+schM s:=by rw [codeX_yes h];simp
theorem codeX_rows {s:Int} (h:schOk s=true):∀ r ∈ codeX s,r.length=schK s/\∀ y ∈ r,0<=y/\y<=255:=fun r hr=>by
 rw [codeX_yes h] at hr
 rcases List.mem_append.1 hr with q | q
 ·obtain ⟨i,_,rfl⟩:=List.mem_map.1 q
  refine ⟨oneRow_len _ _,fun y hy=>?_⟩
  obtain ⟨j,_,rfl⟩:=List.mem_map.1 hy
  split <;> omega
 ·obtain ⟨i,_,rfl⟩:=List.mem_map.1 q
  refine ⟨codeRow_len _ _,fun y hy=>?_⟩
  obtain ⟨j,_,rfl⟩:=List.mem_map.1 hy
  exact b8_num _
def mostL:List ByteArray->Nat
 | []=>0
 | x::L=>max x.size (mostL L)
theorem mostL_le {L:List ByteArray} {x:ByteArray} (h:x ∈ L):x.size<=mostL L:=by
 induction L with
 | nil=>simp at h
 | cons y L ih =>
  rcases List.mem_cons.1 h with rfl | h
  ·simp only [mostL];omega
  ·have:=ih h;simp only [mostL];omega
theorem mostL_snoc (L:List ByteArray) (x:ByteArray):mostL (L++[x])=max (mostL L) x.size:=by
 induction L with
 | nil=>simp [mostL]
 | cons y L ih=>simp only [List.cons_append,mostL,ih];omega
theorem mostL_all {L:List ByteArray} {n:Nat} (h:∀ x ∈ L,x.size<=n):mostL L<=n:=by
 induction L with
 | nil=>simp [mostL]
 | cons y L ih=>simp only [mostL];have h1:=h y (by simp);have h2:=ih (fun x hx=>h x (by simp [hx]));omega
def zerosB (n:Nat):ByteArray:=⟨(List.replicate n (0:UInt8)).toArray⟩
theorem zerosB_size (n:Nat):(zerosB n).size=n:=by simp [zerosB,ByteArray.size]
def fillL (L:List ByteArray):List ByteArray:=L.map fun x=>addB x (zerosB (mostL L))
theorem fillL_len (L:List ByteArray):(fillL L).length=L.length:=by simp [fillL]
def shortL (L:List ByteArray):Bool:=L.all fun x=>decide (x.size<=200)
def encX (s:Int) (L:List ByteArray):List ByteArray × Bool:=if schOk s=true/\L.length=schK s/\shortL L=true then (appX (codeX s) (fillL L),true) else ([],false)
theorem encX_no {s:Int} {L:List ByteArray} (h:¬ (schOk s=true/\L.length=schK s/\shortL L=true)):encX s L=([],false):=if_neg h
theorem encX_yes {s:Int} {L:List ByteArray} (h:schOk s=true/\L.length=schK s/\shortL L=true):encX s L=(appX (codeX s) (fillL L),true):=if_pos h
def TPost (R:List ByteArray × Bool) (w:World) (e:Ending) (w':World):Prop:=∃ v,e = .returned (.tuple #[v,.bool R.2])/\SAns w' v R.1 w.heap.size w'.heap.size/\Below w.heap.size w w'
theorem tpost_no {R:List ByteArray × Bool} {w w':World} {e:Ending} {a:Option Addr} {cap:Nat} (h:R=([],false)) (he:e = .returned (.tuple #[.slice a 0 cap,.bool false])) (hb:Below w.heap.size w w'):TPost R w e w':=by
 unfold TPost
 rw [h]
 exact ⟨_,he,SAns.empty _ _ _ _ _,hb⟩
end Go.Proofs.YteaieagkjepgiaaGreatDoorT
/- . -/
namespace Go.Proofs.YteaieagkjepgiaaGreatDoorT
set_option maxRecDepth 100000
open Go.RowKit
open W (B8 Mx)
attribute [local go_sem ↓] Go.wp_at_zero Go.wp_at_succ
attribute [local irreducible] W.gm W.xs W.mm W.gi mx matOk
theorem news_rows {w:World} {g:Nat} {ss:List SR} (h:WCells w g (svs ss)):∀ j u,(svs ss)[j]?=some u->w.cell? ((⟨g,0,none⟩:Addr).add j)=some u:=fun j u hj=>by
 have e:(⟨g,0,none⟩:Addr).add j=⟨g,j,none⟩:=by cases j <;> simp [Addr.add]
 rw [e];exact (h.2 j u hj).1
theorem one_rows' (ss:List SR):∀ u ∈ svs ss,u.oneCell'=true:=fun u hu=>by
 obtain ⟨x,_,rfl⟩:=List.mem_map.1 hu
 rfl
theorem BI.over {w w1 w2:World} {v1 v':Value} {ss:List SR} {g:Nat} (hw:MW w1 g ss w.heap.size w1.heap.size) (hne:∀ s ∈ ss,s.row ≠ []) (hb:Below w.heap.size w w1)
  (hv:∀ q,v1.ownBlock=some q->w.heap.size<=q/\∀ s ∈ ss,s.loc ≠ some ⟨q,0,none⟩) (hown:w2.ownsRow w.heap.size 39 1 v' ss.length (svs ss)) (hg:w1.grownBy w2 v1.ownBlock):BI w w2 v' ss:=by
 refine ⟨hown,fun s hs=>?_,hw.apart,hb.grown hg hb.size (fun q hq=>(hv q hq).1)⟩
 obtain ⟨b,e,h1,h2,h3,h4,h5⟩:=hw.rows s hs
 refine ⟨b,e,h1,⟨Nat.lt_of_lt_of_le h4.1 hg.size,fun i u hu=>?_⟩,h5,hne s hs⟩
 have hbk:w2.heap[b]?=w1.heap[b]?:=hg.block b h4.1 (fun q=>by
  have:=(hv b q.symm).2 s hs
  exact this e)
 exact ⟨(World.cell?_of_block (a:=⟨b,i,none⟩) hbk).trans (h4.2 i u hu).1,(World.frozen?_of_block (a:=⟨b,i,none⟩) hbk).trans (h4.2 i u hu).2⟩
theorem codeX_take {s:Int} (h:schOk s=true) {i:Nat} (hi:i<schM s):(codeX s).take (schK s+i+1)=(codeX s).take (schK s+i)++[codeRow (schK s) i]:=by
 have hl:schK s+i<(codeX s).length:=by rw [codeX_len h];omega
 rw [List.take_succ_eq_append_getElem hl]
 congr 2
 simp only [codeX_yes h]
 rw [List.getElem_append_right (by simp)]
 simp
theorem codeX_start {s:Int} (h:schOk s=true):(codeX s).take (schK s)=oneX (schK s:Nat):=by
 obtain ⟨b1,b2,_,_⟩:=sch_bounds h
 rw [codeX_yes h,List.take_append_of_le_length (by simp),List.take_of_length_le (by simp)]
 unfold oneX
 rw [if_pos (by omega)];rfl
set_option maxRecDepth 100000 in
set_option maxHeartbeats 4000000 in
theorem specCodeOf (s:Int) (w:World):Calls Tw.prog 34 #[.int .i64 s] w fun e w'=>MPost (codeX s) w e w':=by
 have HS:=Shut.mk (fun W=>specSchema s W)
 cases h:schOk s with
 | false =>
  rw [codeX_no h]
  unfold SchPost at HS
  rw [h] at HS
  clear h
  go_enter Tw.func34,Tw.ntmps34
  go_wp2_with fail
  refine (HS.out _).mono ?_
  rintro e w1 ⟨rfl,rfl⟩
  go_wp2_with fail
  go_ret
  exact ⟨_,rfl,MAns.empty _ _ _ _ _,(Below.refl _ _).alloc (Nat.le_refl _) _⟩
 | true =>
  obtain ⟨i0,hi0,hz0,hz1,hz2⟩:=info_parts infoRow
  obtain ⟨i1,hi1,hy0,hy1,hy2⟩:=info_parts infoIntG
  unfold SchPost at HS
  rw [h] at HS
  obtain ⟨b1,b2,b3,b4⟩:=sch_bounds h
  have HSTA:=Shut.mk (codeX_start h)
  have HTK:=Shut.mk (fun i (hi:i<schM s)=>codeX_take h hi)
  have HLEN:=Shut.mk (codeX_len h)
  clear h
  generalize schK s=k at *
  generalize schM s=m at *
  generalize codeX s=C at *
  have HONE:=Shut.mk (fun W=>specOneM (k:Int) W)
  have hal:Below w.heap.size w (w.alloc (.cells #[] 39)):=(Below.refl _ _).alloc (Nat.le_refl _) _
  have HAL:=Shut.mk hal
  have HOWN0:=Shut.mk (World.ownsRow_made (base:=w.heap.size) (e:=39) (size:=1) w #[] 0 (Nat.le_refl _) (by decide) rfl)
  clear hal
  go_enter Tw.func34,Tw.ntmps34
  go_wp2_with fail
  refine (HS.out _).mono ?_
  rintro e w0 ⟨rfl,rfl⟩
  go_wp2_with fail
  refine (HONE.out _).mono ?_
  rintro e w1 ⟨v1,rfl,ha1,hb1⟩
  have hlo:(oneX (k:Int)).length=k:=by unfold oneX;rw [if_pos (by omega)];simp
  obtain ⟨a1,cap1,ss,rfl,hr1,hc1,q1⟩:=ha1
  have hls:ss.length=k:=by rw [<-rws_len,hr1,hlo]
  obtain ⟨g,rfl,hm1⟩:∃ g,a1=some ⟨g,0,none⟩/\MW w1 g ss (w0.alloc (.cells #[] 39)).heap.size w1.heap.size:=by
   rcases q1 with rfl | q1
   ·simp at hls;omega
   ·exact q1
  have hown0:w1.ownsRow w0.heap.size 39 1 (.slice (some ⟨w0.heap.size,0,none⟩) 0 0) 0 []:=HOWN0.out.kept (row:=none) ⟨hb1.os,hb1.tape,hb1.output,hb1.size,fun k hk _=>hb1.block k hk⟩ (Classical.em _)
  have HNEWS:=Shut.mk (news_rows hm1.out)
  have HM1:=Shut.mk hm1
  have HB1:=Shut.mk (HAL.out.trans (hb1.mono HAL.out.size))
  have HR1:=Shut.mk hr1
  have HLS:Hid (ss.length=k):=hls
  rw [hls]
  clear q1 hm1 hb1 hr1 hls hlo hc1 HAL HOWN0 HONE
  go_wp2_with (at_builtin;refine wpList_append_own _ rfl _ _ 65 rfl w0.heap.size 39 i0 (.slice none 0 0) 1 24 Tw.underlying65 hi0 hz0 hz1 hz2 rfl (by decide) _ 0 [] rfl hown0 ⟨g,0,none⟩ k cap1 (svs ss) rfl ?c1 HNEWS.out (one_rows' ss) ?c3 ?c4 ?c5 ?_)
  case c1=>rw [svs_len,Nat.mul_one];exact HLS.out
  case c3=>unfold maxLen;omega
  case c4=>omega
  case c5=>exact HB1.out.size
  intro v2 w2 hown2 hg2 _
  have hbi:BI w0 w2 v2 ss:=BI.over (HM1.out.wide (by simp) (Nat.le_refl _)) (fun s hs=>by
    have:s.row ∈ oneX (k:Int):=by rw [<-HR1.out];exact List.mem_map.2 ⟨s,hs,rfl⟩
    unfold oneX at this
    rw [if_pos (by omega)] at this
    obtain ⟨i,_,hi⟩:=List.mem_map.1 this
    intro e0
    have hl:=oneRow_len (k:Int).toNat i
    rw [hi,e0] at hl
    simp at hl;omega) HB1.out (fun q hq=>by
    have:q=w0.heap.size:=by simp [Value.ownBlock] at hq;exact hq.symm
    subst this
    refine ⟨Nat.le_refl _,fun s hs e0=>?_⟩
    obtain ⟨b,e1,h1,_⟩:=HM1.out.rows s hs
    have:b=w0.heap.size:=congrArg Addr.block (Option.some.inj (e1.symm.trans e0))
    simp at h1;omega) (by rw [HLS.out];exact hown2) hg2
  have HBI:=Shut.mk hbi
  have HRW:Shut (rws ss=C.take (k+0)):=⟨by rw [HR1.out,Nat.add_zero,HSTA.out]⟩
  clear hbi hown2 hg2 hown0 HM1 HR1 HSTA HNEWS HB1
  go_wp2_with fail
  go_loopw [6,7] (fun v ii wr=>∃ (i:Nat) (ts:List SR) (vv:Value),vv=v/\ii = .int .i64 (i:Nat)/\i<=m/\ts.length=k+i/\Shut (rws ts=C.take (k+i))/\Shut (BI w0 wr vv ts)) (fun _ ii _=>m - (intOf ii).toNat)
  case atStart=>exact ⟨0,ss,_,rfl,rfl,Nat.zero_le _,HLS.out,HRW,HBI⟩
  case round =>
   clear HBI HRW HLS
   obtain ⟨i,ts,v,rfl,rfl,him,htl,hrw,hbi⟩:=hrel
   obtain ⟨wo,rfl⟩:∃ wo,wo=wr:=⟨_,rfl⟩
   have HTL:Hid (ts.length=k+i):=htl
   clear htl
   by_cases hlt:i<m
   ·have hlt':(i:Int)<(m:Int):=by omega
    have k0:(0:Int)<=(i:Int):=by omega
    have HST:=Shut.mk (HTK.out i hlt)
    have HBA:=Shut.mk (show Below wo.heap.size wo (wo.alloc (.cells #[] 3)) from (Below.refl _ _).alloc (Nat.le_refl _) _)
    have HOA:Shut ((wo.alloc (.cells #[] 3)).ownsRow wo.heap.size 3 1 (.slice (some ⟨wo.heap.size,0,none⟩) 0 0) 0 (ics ((codeRow k i).take 0))):=⟨World.ownsRow_made wo #[] 0 (Nat.le_refl _) (by decide) rfl⟩
    go_wp2_with fail
    go_loopw [8,9] (fun rv jj wq=>∃ (j:Nat) (rr:Value),rr=rv/\jj = .int .i64 j/\j<=k/\Shut (wq.ownsRow wo.heap.size 3 1 rr j (ics ((codeRow k i).take j)))/\Shut (Below wo.heap.size wo wq)) (fun _ jj _=>k - (intOf jj).toNat)
    case atStart=>exact ⟨0,_,rfl,rfl,by omega,HOA,HBA⟩
    case round =>
     clear HOA HBA
     obtain ⟨j,rr,rfl,rfl,hjk,hown,hbq⟩:=hrel
     obtain ⟨wi,rfl⟩:∃ wi,wi=wr:=⟨_,rfl⟩
     by_cases hjl:j<k
     ·have hjl':(j:Int)<(k:Int):=by omega
      have j0:(0:Int)<=(j:Int):=by omega
      have hx:bits .xor .i64 ((k:Int)+(i:Int)) (j:Int)=(((k+i) ^^^ j:Nat):Int):=by
       have:=i64_xor (k+i) j (by omega) (by omega)
       rw [<-this];push_cast;rfl
      have hst:ics ((codeRow k i).take (j+1))=ics ((codeRow k i).take j)++[.int .i64 ((W.gi (g8 (((k+i) ^^^ j:Nat):Int))).toNat:Int)]:=by
       have hj2:j<(codeRow k i).length:=by rw [codeRow_len];exact hjl
       rw [List.take_succ_eq_append_getElem hj2]
       simp [codeRow,ics]
      have HINV:=Shut.mk (fun W=>specInvG (((k+i) ^^^ j:Nat):Int) W)
      generalize W.gi (g8 (((k+i) ^^^ j:Nat):Int))=G at *
      have HS2:=Shut.mk hst
      have hs3:=hbq.out.size
      generalize (((k+i) ^^^ j:Nat):Int)=X at *
      clear hst
      go_wp2_with fail
      refine (HINV.out _).mono ?_
      rintro e w5 ⟨rfl,rfl⟩
      have hown3:=hown.out
      clear hown HINV
      go_wp2_with (at_builtin;refine wpList_append_own _ rfl _ _ 39 rfl wo.heap.size 3 i1 (.int .i64 0) 1 8 Tw.underlying39 hi1 hy0 hy1 hy2 rfl (by decide) _ _ _ rfl (hown3.alloc _) ⟨w5.heap.size,0,none⟩ 1 1 [.int .i64 (G.toNat:Int)] rfl rfl (cell_one_new _ _ _) ?c2 ?c3 ?c4 ?c5 ?_)
      case c2=>first | rfl | (intro u hu;simp at hu;subst hu;rfl)
      case c3=>unfold maxLen;omega
      case c4=>omega
      case c5=>first | omega | (simp;omega)
      intro v' w4 hown' hgrow _
      rw [<-HS2.out] at hown'
      have Q1:=Shut.mk hown'
      have Q2:=Shut.mk ((hbq.out.alloc hs3 (.cells #[.int .i64 (G.toNat:Int)] 3)).grown hgrow (by simp;omega) (fun j hj=>(hown3.lt j hj).1))
      clear hown' hgrow hown3 hbq
      go_wp2_with fail
      go_roundw
      case rel=>exact ⟨j+1,v',rfl,by go_num,by omega,Q1,Q2⟩
      case measure=>simp [intOf];omega
     ·have e:j=k:=by omega
      have hjl':¬ (j:Int)<(k:Int):=by omega
      have hown2:=hown.out
      rw [e,List.take_of_length_le (by rw [codeRow_len];exact Nat.le_refl _)] at hown2
      obtain ⟨gr,cr,rfl,hcr⟩:=own_some hown2 (by omega)
      have hgr:=hown2.lt gr rfl
      have HROW:=Shut.mk (own_wcells hown2)
      have HBI:=Shut.mk (show BI w0 wi v ts/\(∀ q,v.ownBlock=some q->q ≠ gr)/\∀ s ∈ ts,s.loc ≠ some ⟨gr,0,none⟩ from ⟨hbi.out.below hbq.out,fun q hq=>by have:=(hbi.out.own.lt q hq).2;omega,fun s hs e=>by obtain ⟨b',e',_,q,_⟩:=hbi.out.rows s hs;have:b'=gr:=congrArg Addr.block (Option.some.inj (e'.symm.trans e));have:=q.1;omega⟩)
      have hsi:wo.heap.size<=wi.heap.size:=hbq.out.size
      have hso:=hbi.out.bel.size
      have hgr1:=hgr.1
      have hown:=HBI.out.1.own
      clear hown2 hbq hbi hgr e
      go_wp2_with (at_builtin;refine wpList_append_own _ rfl _ _ 65 rfl w0.heap.size 39 i0 (.slice none 0 0) 1 24 Tw.underlying65 hi0 hz0 hz1 hz2 rfl (by decide) _ _ _ rfl (hown.alloc _) ⟨wi.heap.size,0,none⟩ 1 1 [.slice (some ⟨gr,0,none⟩) k cr] rfl rfl (cell_one_new _ _ _) ?c2 ?c3 ?c4 ?c5 ?_)
      case c2=>first | rfl | (intro u hu;simp at hu;subst hu;rfl)
      case c3=>unfold maxLen;have:=HTL.out;omega
      case c4=>have:=HTL.out;omega
      case c5=>first | omega | (simp;omega)
      intro v' w6 hown' hgrow _
      have hne:codeRow k i ≠ []:=fun e=>by have:=congrArg List.length e;rw [codeRow_len] at this;simp at this;omega
      have hap:=HBI.out.1.append (cap:=cr) (by omega) HROW.out hne (by rw [codeRow_len];exact hcr) HBI.out.2.1 HBI.out.2.2 (by rw [codeRow_len];exact hown') hgrow
      have HAP:=Shut.mk hap
      have HR2:Shut (rws (ts++[SR.mk (some ⟨gr,0,none⟩) (codeRow k i) cr])=C.take (k+(i+1))):=⟨by rw [rws_snoc,hrw.out,<-Nat.add_assoc,HST.out]⟩
      clear hap hown' hgrow hown HBI HROW hrw hne
      go_wp2_with fail
      go_roundw
      case rel=>exact ⟨i+1,_,v',rfl,by go_num,by omega,by rw [List.length_append,List.length_singleton,HTL.out];omega,HR2,HAP⟩
      case measure=>simp [intOf];omega
   ·have e:i=m:=by omega
    have hlt':¬ (i:Int)<(m:Int):=by omega
    have HF:=Shut.mk (hbi.out.fin (X:=C) (by rw [hrw.out,List.take_of_length_le (by rw [HLEN.out];omega)]))
    have HB:=Shut.mk hbi.out.bel
    clear e hbi hrw
    go_wp2_with fail
    go_ret
    exact ⟨v,rfl,HF.out,HB.out⟩
end Go.Proofs.YteaieagkjepgiaaGreatDoorT
/- . -/
namespace Go.Proofs.YteaieagkjepgiaaGreatDoorT
set_option maxRecDepth 100000
open Go.RowKit
open W (B8 Mx)
attribute [local go_sem ↓] Go.wp_at_zero Go.wp_at_succ
attribute [local irreducible] W.gm W.xs W.mm W.gi mx matOk addB mulT appX codeX
theorem infoByteG:(Tw.prog.info? 5).map (fun i=>(i.zero,i.size,i.bytes))=some (some (.int .u8 0),1,1):=by kernel_rfl
theorem make_zeros (n:Nat) (h:n<=1000) (W:World):(Instr.makeSlice 63 (.int .i64 (n:Int)) (.int .i64 (n:Int))).run Tw.prog W = .ok (.slice (some ⟨W.heap.size,0,none⟩) n n) (W.alloc (.cells (madeCells #[.int .u8 0] n) 5)):=
 run_make_row' 63 5 (.int .u8 0) 1 Tw.underlying63 infoByteG rfl .i64 .i64 n (by omega) (by omega) W
theorem zeros_row (n:Nat) (W:World):BRow (W.alloc (.cells (madeCells #[.int .u8 0] n) 5)) W.heap.size (List.replicate n (0:UInt8)):=by
 have h:=wcells_new W (madeCells #[.int .u8 0] n) 5
 rw [toList_madeCells_one] at h
 refine ⟨h.1,fun j hj=>?_⟩
 have hj':j<n:=by simpa using hj
 have:=h.2 j (.int .u8 0) (by simp [hj'])
 have e:(List.replicate n (0:UInt8)).getD j 0=0:=by simp [List.getD,hj']
 rw [e]
 exact this
theorem zeros_text {n:Nat} {W:World} {g:Nat} (h:BRow W g (List.replicate n (0:UInt8))):(convert 63 9 (.slice (some ⟨g,0,none⟩) n n)).run Tw.prog W = .ok (.string (zerosB n)) W:=by
 have:=brow_string (cap:=n) h
 rw [List.length_replicate] at this
 exact this
theorem brow_below {w w':World} {g:Nat} {l:List UInt8} (h:BRow w g l) (hb:Below w.heap.size w w'):BRow w' g l:=
 ⟨Nat.lt_of_lt_of_le h.1 hb.size,fun j hj=>⟨(hb.cell (p:=⟨g,j,none⟩) h.1).trans (h.2 j hj).1,(hb.frozen (p:=⟨g,j,none⟩) h.1).trans (h.2 j hj).2⟩⟩
theorem own_kept {w w':World} {B n sz:Nat} {t:TypeId} {v:Value} {L:List Value} (h:w.ownsRow B t sz v n L) (hb:Below w.drew.heap.size w.drew w'):w'.ownsRow B t sz v n L:=
 h.kept (row:=none) ⟨hb.os,hb.tape,hb.output,hb.size,fun k hk _=>hb.block k hk⟩ (Classical.em _)
theorem mostL_take {L:List ByteArray} {i:Nat} (hi:i<L.length):mostL (L.take (i+1))=max (mostL (L.take i)) (L.getD i ⟨#[]⟩).size:=by
 have e:L[i]=L.getD i ⟨#[]⟩:=by simp [List.getD,hi]
 rw [List.take_succ_eq_append_getElem hi,mostL_snoc,e]
theorem shortL_no {L:List ByteArray} {i:Nat} (hi:i<L.length) (h:200<(L.getD i ⟨#[]⟩).size):shortL L=false:=by
 have e:L[i]=L.getD i ⟨#[]⟩:=by simp [List.getD,hi]
 unfold shortL
 rw [List.all_eq_false]
 exact ⟨L[i],List.getElem_mem hi,by rw [e];simp only [decide_eq_true_eq];omega⟩
theorem shortL_yes {L:List ByteArray} (h:∀ i,i<L.length->(L.getD i ⟨#[]⟩).size<=200):shortL L=true:=by
 unfold shortL
 rw [List.all_eq_true]
 intro x hx
 obtain ⟨i,hi,rfl⟩:=List.mem_iff_getElem.1 hx
 have e:L[i]=L.getD i ⟨#[]⟩:=by simp [List.getD,hi]
 rw [e];simp only [decide_eq_true_eq];exact h i hi
theorem shortL_size {L:List ByteArray} (h:shortL L=true):∀ x ∈ L,x.size<=200:=fun x hx=>by
 unfold shortL at h
 rw [List.all_eq_true] at h
 simpa using h x hx
theorem SAns.broad {w:World} {v:Value} {L:List ByteArray} {lo hi lo' hi':Nat} (h:SAns w v L lo hi) (h1:lo'<=lo) (h2:hi<=hi'):SAns w v L lo' hi':=by
 obtain ⟨a,cap,e,hc,q⟩:=h
 refine ⟨a,cap,e,hc,?_⟩
 rcases q with rfl | ⟨g,rfl,q1,q2,hm⟩
 ·exact .inl rfl
 ·exact .inr ⟨g,rfl,by omega,by omega,hm⟩
theorem xsum_le {X:List (List Int)} {m:Nat} (h:∀ x ∈ X,x.length<=m):xsum X<=X.length*m:=by
 induction X with
 | nil=>simp [xsum]
 | cons x X ih =>
  have h1:=h x (by simp)
  have h2:=ih (fun y hy=>h y (by simp [hy]))
  simp only [xsum,List.length_cons]
  rw [Nat.add_mul];omega
theorem tsum_all {L:List ByteArray} {m:Nat} (h:∀ x ∈ L,x.size<=m):tsum L<=L.length*m:=by
 induction L with
 | nil=>simp [tsum]
 | cons x X ih =>
  have h1:=h x (by simp)
  have h2:=ih (fun y hy=>h y (by simp [hy]))
  simp only [tsum,List.length_cons]
  rw [Nat.add_mul];omega
theorem codeX_fit {s:Int} (h:schOk s=true):MFit (codeX s):=by
 obtain ⟨b1,b2,b3,b4⟩:=sch_bounds h
 have h1:=codeX_len h
 have h2:=xsum_le (X:=codeX s) (m:=4) (fun x hx=>by have:=(codeX_rows h x hx).1;omega)
 unfold MFit
 omega
theorem fillL_size {L:List ByteArray} (h:shortL L=true):∀ x ∈ fillL L,x.size<=200:=fun x hx=>by
 obtain ⟨y,hy,rfl⟩:=List.mem_map.1 hx
 rw [addB_size,zerosB_size]
 have h1:=shortL_size h y hy
 have h2:=mostL_all (shortL_size h)
 omega
theorem fillL_fit {L:List ByteArray} (hl:L.length<=8) (h:shortL L=true):TFit (fillL L):=by
 have h1:=tsum_all (fillL_size h)
 unfold TFit
 rw [fillL_len] at *
 omega
set_option maxRecDepth 100000 in
set_option maxHeartbeats 4000000 in
theorem specEncode_walk (s:Int) (L:List ByteArray) (k b2 o2 cap2:Nat) (w:World) (hs:schOk s=true) (hk:schK s=k) (hl:L.length=k) (hU:b2<w.heap.size/\∀ j,j<k->w.cell? ⟨b2,o2+j,none⟩=some (.string (L.getD j ⟨#[]⟩))) (hf:TFit L) :
  Calls Tw.prog 13 #[.int .i64 s,.slice (some ⟨b2,o2,none⟩) k cap2] w fun e w'=>TPost (encX s L) w e w':=by
 obtain ⟨i0,hi0,hz0,hz1,hz2⟩:=info_parts infoTextG
 obtain ⟨b1,b3,_,_⟩:=sch_bounds hs
 rw [hk] at b1 b3
 have HS:=Shut.mk (fun W=>specSchema s W)
 unfold SchPost at HS
 rw [hs,hk] at HS
 have HU:=Shut.mk hU
 have HL:Hid (L.length=k):=hl
 have HOK:=Shut.mk (And.intro hs hk)
 have hfz:∀ j,j<k->(L.getD j ⟨#[]⟩).size<=1048576:=fun j hj=>by
  have hj':j<L.length:=by omega
  have:=tsum_mem (L:=L) (x:=L.getD j ⟨#[]⟩) (by simp [List.getD,hj'])
  unfold TFit at hf;omega
 have HFZ:=Shut.mk hfz
 have hne:((k:Int) != (k:Int))=false:=by simp
 clear hU hl hf hs hk hfz
 go_enter Tw.func13,Tw.ntmps13
 go_wp2_with fail
 refine (HS.out _).mono ?_
 rintro e w0 ⟨rfl,rfl⟩
 go_wp2_with fail
 go_loop [9,10] (fun mm ii=>∃ (i:Nat),ii = .int .i64 (i:Nat)/\mm = .int .i64 (mostL (L.take i):Nat)/\i<=k/\Shut (∀ j,j<i->(L.getD j ⟨#[]⟩).size<=200)) (fun _ ii=>k - (intOf ii).toNat)
 case atStart=>exact ⟨0,rfl,rfl,Nat.zero_le _,⟨fun j hj=>by omega⟩⟩
 case round =>
  obtain ⟨i,rfl,rfl,hik,hsh⟩:=hrel
  by_cases hlt:i<k
  ·have hlt':(i:Int)<(k:Int):=by omega
   have i0':(0:Int)<=(i:Int):=by omega
   have d:=HU.out.2 i hlt
   have hsz:=HFZ.out i hlt
   have hmt:=mostL_take (L:=L) (i:=i) (by have:=HL.out;omega)
   have hml:mostL (L.take i)<=200:=mostL_all (fun x hx=>by
    obtain ⟨j,hj,rfl⟩:=List.mem_iff_getElem.1 hx
    have hj1:j<i:=by rw [List.length_take] at hj;omega
    have hj2:j<L.length:=by have:=HL.out;omega
    have:=hsh.out j hj1
    have e:L.getD j ⟨#[]⟩=L[j]:=by simp [List.getD,hj2]
    rw [e] at this
    simpa using this)
   by_cases hbig:(200:Int)<((L.getD i ⟨#[]⟩).size:Int)
   ·have HNO:=Shut.mk (encX_no (s:=s) (L:=L) (fun h=>by have:=shortL_no (L:=L) (i:=i) (by have:=HL.out;omega) (by omega);rw [this] at h;cases h.2.2))
    generalize L.getD i ⟨#[]⟩=x at *
    clear hmt hml hsh
    go_wp2_with fail
    go_ret2
    exact tpost_no HNO.out rfl ((Below.refl _ _).alloc (Nat.le_refl _) _)
   ·have HSH:Shut (∀ j,j<i+1->(L.getD j ⟨#[]⟩).size<=200):=⟨fun j hj=>by
     by_cases e:j=i
     ·subst e;omega
     ·exact hsh.out j (by omega)⟩
    have HMT:=Shut.mk hmt
    generalize L.getD i ⟨#[]⟩=x at *
    generalize mostL (L.take i)=m at *
    clear hmt hsh
    by_cases hm:(m:Int)<(x.size:Int)
    ·go_wp2_with fail
     go_round
     case rel=>exact ⟨i+1,by go_num,by rw [HMT.out,Nat.max_eq_right (by omega)],by omega,HSH⟩
     case measure=>simp [intOf];omega
    ·go_wp2_with fail
     go_round
     case rel=>exact ⟨i+1,by go_num,by rw [HMT.out,Nat.max_eq_left (by omega)],by omega,HSH⟩
     case measure=>simp [intOf];omega
  ·have e:i=k:=by omega
   subst e
   rw [List.take_of_length_le (by rw [HL.out];exact Nat.le_refl _)]
   have HSHL:Shut (shortL L=true):=⟨shortL_yes (fun j hj=>hsh.out j (by rw [<-HL.out];exact hj))⟩
   have hM:mostL L<=200:=mostL_all (shortL_size HSHL.out)
   have HENC:=Shut.mk (encX_yes (s:=s) (L:=L) ⟨HOK.out.1,by rw [HL.out,HOK.out.2],HSHL.out⟩)
   have HFL:Shut (∀ j,j<i->(fillL L).take (j+1)=(fillL L).take j++[addB (L.getD j ⟨#[]⟩) (zerosB (mostL L))]):=⟨fun j hj=>by
    have h1:j<(fillL L).length:=by rw [fillL_len,HL.out];exact hj
    have h2:j<L.length:=by rw [HL.out];exact hj
    rw [List.take_succ_eq_append_getElem h1]
    simp [fillL,List.getD,h2]⟩
   have hlt':¬ (i:Int)<(i:Int):=by omega
   obtain ⟨M,hMe⟩:∃ M,M=mostL L:=⟨_,rfl⟩
   rw [<-hMe] at hM HFL ⊢
   clear hMe hsh
   have HOW:Shut ((w0.alloc (.cells #[] 9)).ownsRow w0.heap.size 9 1 (.slice (some ⟨w0.heap.size,0,none⟩) 0 0) 0 (tv ((fillL L).take 0))):=⟨World.ownsRow_made w0 #[] 0 (Nat.le_refl _) (by decide) rfl⟩
   have HBW:=Shut.mk (show Below w0.heap.size w0 (w0.alloc (.cells #[] 9)) from (Below.refl _ _).alloc (Nat.le_refl _) _)
   go_wp2_with fail
   go_loopw [11,12] (fun v jj wr=>∃ (j:Nat) (vv:Value),vv=v/\jj = .int .i64 (j:Nat)/\j<=i/\Shut (wr.ownsRow w0.heap.size 9 1 vv j (tv ((fillL L).take j)))/\Shut (Below w0.heap.size w0 wr)) (fun _ jj _=>i - (intOf jj).toNat)
   case atStart=>exact ⟨0,_,rfl,rfl,Nat.zero_le _,HOW,HBW⟩
   case round =>
    clear HOW HBW
    obtain ⟨j,v,rfl,rfl,hji,hown,hb⟩:=hrel
    obtain ⟨wo,rfl⟩:∃ wo,wo=wr:=⟨_,rfl⟩
    by_cases hjl:j<i
    ·have hjl':(j:Int)<(i:Int):=by omega
     have j0:(0:Int)<=(j:Int):=by omega
     have hso:=hb.out.size
     have d:=(hb.out.cell (p:=⟨b2,o2+j,none⟩) HU.out.1).trans (HU.out.2 j hjl)
     have hsz:=HFZ.out j hjl
     have HST:=Shut.mk (HFL.out j hjl)
     have hmk:=make_zeros M (by omega)
     have HADD:=Shut.mk (fun W=>specAddText (L.getD j ⟨#[]⟩) (zerosB M) W hsz (by rw [zerosB_size];omega))
     generalize L.getD j ⟨#[]⟩=x at *
     generalize addB x (zerosB M)=T at *
     have hcv1:=zeros_text (zeros_row M wo)
     have hcv2:=zeros_text (brow_below (zeros_row M wo) (Below.drew (Below.refl _ _)))
     have hown3:=hown.out
     have l2:b2<wo.heap.size:=Nat.lt_of_lt_of_le HU.out.1 hso
     go_wp2_with fail
     have nv:v.ownBlock ≠ some (⟨b2,o2+j,none⟩:Addr).block:=fun e=>by have:=(hown3.lt _ e).1;have:=HU.out.1;simp at *;omega
     have tokA:True:=trivial
     go_region_law
      (first
       | (have _t:=tokA;go_simp;go_at_call 32;refine (HADD.out _).mono ?_;rintro e w6 ⟨rfl,hbA⟩;clear _t tokA)
       | (refine step_append_lies _ (by rfl) _ _ _ (by rfl) w0.heap.size 9 i0 (.string ⟨#[]⟩) 1 16 Tw.underlying35 hi0 hz0 hz1 hz2 rfl (by decide) _ _ _ (by rfl) ((own_kept (hown3.alloc (.cells (madeCells #[.int .u8 0] M) 5)) hbA).alloc _) ⟨w6.heap.size,0,none⟩ 1 1 [.string T] (by rfl) (by rfl) (cell_one_new _ _ _) (by simp [Value.oneCell']) (by omega) (by unfold maxLen;omega) (by omega) (by have h1:=hbA.size;simp at h1 ⊢;omega) (w6.heap.size+1) (by simp) ?_;intro gg cap1 w8 hown1 hgrow hat hlt8))
     all_goals go_wp2_with fail
     all_goals
      have hb6:Below w0.heap.size w0 w6:=(Below.drew (hb.out.alloc hso _)).trans (hbA.mono (by simp;omega))
      have hb8:Below w0.heap.size w0 w8:=(hb6.alloc hb6.size _).grown hgrow (by have:=hb6.size;simp;omega) (fun q hq=>(hown3.lt q hq).1)
      exact ⟨⟨j+1,_,rfl,by go_num,by omega,⟨by rw [HST.out,<-tv_snoc];exact hown1⟩,⟨hb8⟩⟩,by simp [intOf];omega⟩
    ·have e:j=i:=by omega
     have hjl':¬ (j:Int)<(i:Int):=by omega
     have hso:=hb.out.size
     have hown3:=hown.out
     rw [e,List.take_of_length_le (by rw [fillL_len,HL.out];exact Nat.le_refl _)] at hown3
     have HSA:=Shut.mk (own_sans (by rw [fillL_len,HL.out]) hown3)
     have HCO:=Shut.mk (specCodeOf s wo)
     have HB:=hb
     clear hown hown3 e hb
     go_wp2_with fail
     refine HCO.out.mono ?_
     rintro e w6 ⟨v6,rfl,ha6,hb6⟩
     have HB6:=Shut.mk (HB.out.trans (hb6.mono HB.out.size))
     have HAP:=Shut.mk (specApplyM ha6.see (HSA.out.see.below hb6) (codeX_fit HOK.out.1) (fillL_fit (by rw [HL.out];omega) HSHL.out))
     clear ha6 hb6 HCO HSA
     go_wp2_with fail
     refine HAP.out.mono ?_
     rintro e w7 ⟨v7,rfl,ha7,hb7⟩
     have HR:=Shut.mk (show TPost (encX s L) w0 (.returned (.tuple #[v7,.bool true])) w7 from ⟨v7,by rw [HENC.out],by rw [HENC.out];exact ha7.broad HB6.out.size (Nat.le_refl _),HB6.out.trans (hb7.mono HB6.out.size)⟩)
     clear ha7 hb7 HAP
     go_wp2_with fail
     go_ret2
     exact HR.out
theorem specEncode {w:World} {u:Value} {L:List ByteArray} {lo hi:Nat} (s:Int) (hu:SSee w u L lo hi) (hf:TFit L):Calls Tw.prog 13 #[.int .i64 s,u] w fun e w'=>TPost (encX s L) w e w':=by
 obtain ⟨a2,cap2,rfl,hm2⟩:=hu
 cases h:schOk s with
 | false =>
  have HNO:=Shut.mk (encX_no (s:=s) (L:=L) (fun q=>by rw [h] at q;cases q.1))
  have HS:=Shut.mk (fun W=>specSchema s W)
  unfold SchPost at HS
  rw [h] at HS
  clear h hm2 hf
  go_enter Tw.func13,Tw.ntmps13
  go_wp2_with fail
  refine (HS.out _).mono ?_
  rintro e w0 ⟨rfl,rfl⟩
  go_wp2_with fail
  go_ret2
  exact tpost_no HNO.out rfl ((Below.refl _ _).alloc (Nat.le_refl _) _)
 | true =>
  obtain ⟨b1,b2,_,_⟩:=sch_bounds h
  by_cases hl:L.length=schK s
  ·obtain ⟨b,off,rfl,lb,hc⟩:=units_in hm2 (by omega)
   rw [hl]
   exact specEncode_walk s L (schK s) b off cap2 w h rfl hl ⟨lb,fun j hj=>hc j (by omega)⟩ hf
  ·have HNO:=Shut.mk (encX_no (s:=s) (L:=L) (fun q=>hl q.2.1))
   have hne:((L.length:Int) != (schK s:Int))=true:=by rw [bne_iff_ne];omega
   have HS:=Shut.mk (fun W=>specSchema s W)
   unfold SchPost at HS
   rw [h] at HS
   generalize schK s=k at *
   clear h hm2 hf hl
   go_enter Tw.func13,Tw.ntmps13
   go_wp2_with fail
   refine (HS.out _).mono ?_
   rintro e w0 ⟨rfl,rfl⟩
   go_wp2_with fail
   go_ret2
   exact tpost_no HNO.out rfl ((Below.refl _ _).alloc (Nat.le_refl _) _)
end Go.Proofs.YteaieagkjepgiaaGreatDoorT
/- . -/
namespace Go.Proofs.YteaieagkjepgiaaGreatDoorT
set_option maxRecDepth 100000
open Go.RowKit
def FRw (w:World) (va:Option Addr) (X:List Value) (lo hi:Nat):Prop:=(va=none/\X=[])\/∃ g,va=some ⟨g,0,none⟩/\lo<=g/\g<hi/\WCells w g X
theorem FRw.crow {w:World} {va:Option Addr} {X:List Value} {lo hi:Nat} (h:FRw w va X lo hi):CRow w va X:=by
 rcases h with ⟨_,rfl⟩ | ⟨g,rfl,_,_,h⟩
 ·intro hp;simp at hp
 ·exact h.crow
theorem FRw.below {w w':World} {va:Option Addr} {X:List Value} {lo hi:Nat} (h:FRw w va X lo hi) (hb:Below w.heap.size w w'):FRw w' va X lo hi:=by
 rcases h with h | ⟨g,h1,h2,h3,h⟩
 ·exact .inl h
 ·exact .inr ⟨g,h1,h2,h3,h.grow hb⟩
theorem FRw.of_wcells {w:World} {g lo hi:Nat} {X:List Value} (h:WCells w g X) (h1:lo<=g) (h2:g<hi):FRw w (some ⟨g,0,none⟩) X lo hi:=.inr ⟨g,rfl,h1,h2,h⟩
theorem FRw.of_own {w:World} {B n c t sz:Nat} {va:Option Addr} {X:List Value} (h:w.ownsRow B t sz (.slice va n c) n X):FRw w va X B w.heap.size/\n<=c:=by
 have h':=h
 rcases h.2 with ⟨h0,hX⟩ | ⟨g,cap,cur,he,hB,hcur,hn,_,_,_⟩
 ·simp only [Value.slice.injEq] at h0
  obtain ⟨rfl,h1,rfl⟩:=h0
  refine ⟨.inl ⟨rfl,?_⟩,by omega⟩
  have hl:=h'.1
  rw [hX,Nat.zero_mul] at hl
  exact List.eq_nil_of_length_eq_zero hl
 ·simp only [Value.slice.injEq] at he
  obtain ⟨rfl,_,rfl⟩:=he
  exact ⟨.inr ⟨g,rfl,hB,(Array.getElem?_eq_some_iff.1 hcur).1,own_wcells h'⟩,hn⟩
structure Mem (w0 w:World) (L:List (Nat × List Value)) (R:List (Option Addr × List Value × Nat × Nat)):Prop where
 cells:∀ p ∈ L,WCells w p.1 p.2
 rows:∀ r ∈ R,FRw w r.1 r.2.1 r.2.2.1 r.2.2.2
 low:Below w0.heap.size w0 w
theorem Mem.below {w0 w w':World} {L:List (Nat × List Value)} {R:List (Option Addr × List Value × Nat × Nat)} (M:Mem w0 w L R) (hb:Below w.heap.size w w'):Mem w0 w' L R:=
 ⟨fun p hp=>(M.cells p hp).grow hb,fun r hr=>(M.rows r hr).below hb,M.low.trans (hb.mono M.low.size)⟩
theorem Mem.row {w0 w:World} {L:List (Nat × List Value)} {R:List (Option Addr × List Value × Nat × Nat)} (M:Mem w0 w L R) {va:Option Addr} {X:List Value} {lo hi:Nat} (h:FRw w va X lo hi):Mem w0 w L ((va,X,lo,hi)::R):=by
 refine ⟨M.cells,fun r hr=>?_,M.low⟩
 rcases List.mem_cons.1 hr with rfl | h'
 ·exact h
 ·exact M.rows r h'
theorem Mem.cell {w0 w:World} {L:List (Nat × List Value)} {R:List (Option Addr × List Value × Nat × Nat)} (M:Mem w0 w L R) {g:Nat} {v:Value} (h:(g,[v]) ∈ L):w.cell? ⟨g,0,none⟩=some v:=((M.cells _ h).2 0 _ rfl).1
theorem Mem.lt {w0 w:World} {L:List (Nat × List Value)} {R:List (Option Addr × List Value × Nat × Nat)} (M:Mem w0 w L R) {g:Nat} {X:List Value} (h:(g,X) ∈ L):g<w.heap.size:=(M.cells _ h).1
theorem Mem.at {w0 w:World} {L:List (Nat × List Value)} {R:List (Option Addr × List Value × Nat × Nat)} (M:Mem w0 w L R) {va:Option Addr} {X:List Value} {lo hi:Nat} (h:(va,X,lo,hi) ∈ R):FRw w va X lo hi:=M.rows _ h
end Go.Proofs.YteaieagkjepgiaaGreatDoorT
/- . -/
namespace Go.Proofs.YteaieagkjepgiaaGreatDoorT
set_option maxRecDepth 100000
open Go.RowKit
attribute [local go_sem ↓] Go.wp_at_zero Go.wp_at_succ
def markU (k:Nat):UnM:=⟨((k:Nat):Int),((k+1:Nat):Int),mt (k+2),((k+3:Nat):Int)⟩
def marksU (k n:Nat):List UnM:=(List.range n).map fun j=>markU (k+4*j)
theorem marksU_len (k n:Nat):(marksU k n).length=n:=by simp [marksU]
theorem marksU_at (k n j:Nat) (h:j<(marksU k n).length):(marksU k n)[j]=markU (k+4*j):=by simp [marksU]
theorem marksU_all {k n:Nat} {ys:List UnM} (hl:ys.length=n) (h:∀ t,t<n->ys[t]?=some (markU (k+4*t))):ys=marksU k n:=by
 apply List.ext_getElem
 ·rw [hl,marksU_len]
 ·intro i h1 h2
  rw [marksU_at]
  have:=h i (by omega)
  rw [List.getElem?_eq_getElem h1] at this
  exact Option.some.inj this
theorem markUnitS_zero (a:Option Addr) (k ca:Nat) (w:World) :
  Calls Tw.prog 26 #[.slice a 0 ca,.int .i64 k] w fun e w'=>e = .returned (.int .i64 k)/\w'=w:=by
 go_enter Tw.func26,Tw.ntmps26
 go_wp2_with fail
 go_rounds 1
 go_ret
 exact ⟨rfl,rfl⟩
set_option maxHeartbeats 1000000 in
theorem markUnitS_all (g:Nat) (xs:List UnM) (k ca:Nat) (w:World) (ha:WCells w g (unS xs)) (hk:0<k) (hn:k+4*xs.length<=1000000000) (hca:xs.length<=ca) :
  Calls Tw.prog 26 #[.slice (some ⟨g,0,none⟩) xs.length ca,.int .i64 k] w fun e w'=>e = .returned (.int .i64 (k+4*xs.length:Nat))/\WCells w' g (unS (marksU k xs.length))/\w.grownBy w' (some g):=by
 obtain ⟨n,hnx⟩:∃ n,n=xs.length:=⟨_,rfl⟩
 have HN:=Shut.mk hnx
 rw [<-hnx]
 rw [<-hnx] at hn hca
 clear hnx
 have HA:=Shut.mk ha
 clear ha
 go_enter Tw.func26,Tw.ntmps26
 go_wp2_with fail
 go_loopw [1,5] (fun c i wr=>∃ (j:Nat) (ys:List UnM),i = .int .i64 j/\c = .int .i64 (k+4*j:Nat)/\j<=n/\Shut (ys.length=n/\(∀ t,t<j->ys[t]?=some (markU (k+4*t)))/\WCells wr g (unS ys)/\w.grownBy wr (some g))) (fun _ i _=>n - (intOf i).toNat)
 case atStart=>exact ⟨0,xs,rfl,rfl,Nat.zero_le _,⟨HN.out.symm,fun t ht=>by omega,HA.out,grownBy_below (Below.refl _ _)⟩⟩
 case round =>
  obtain ⟨j,ys,rfl,rfl,hj,HH⟩:=hrel
  by_cases hlt:j<n
  ·have j0:(0:Int)<=(j:Int):=by omega
   have j1:(j:Int)<(n:Int):=by omega
   have hly:(unS ys).length=n*4:=by rw [unS_len,HH.out.1]
   have hw0:=HH.out.2.2.1
   have Q2:Shut (∀ W:World,Calls Tw.prog 57 #[.int .i64 ((k:Int)+4*(j:Int)+1+1)] W fun e w'=>e = .returned (.string (mt (k+4*j+2)))/\Below W.heap.size W w'):=⟨fun W=>by
    have q:=markText_any (k+4*j+2) W (by omega) (by omega)
    rwa [show ((k+4*j+2:Nat):Int)=(k:Int)+4*(j:Int)+1+1 by push_cast;omega] at q⟩
   obtain ⟨c0,z0⟩:=hw0.2 (j*4) _ (List.getElem?_eq_getElem (by first | omega | (simp only [List.length_set];omega)))
   have HS0:Shut (WCells (wr.setCell ⟨g,j*4,none⟩ (.int .i64 ((k:Int)+4*(j:Int)))) g ((unS ys).set (j*4) (.int .i64 ((k:Int)+4*(j:Int))))):=⟨hw0.set (j*4) _ (by first | omega | (simp only [List.length_set];omega))⟩
   have HG0:Shut (w.grownBy (wr.setCell ⟨g,j*4,none⟩ (.int .i64 ((k:Int)+4*(j:Int)))) (some g)):=⟨(grownBy_two HH.out.2.2.2 (grownBy_setCell _ g _ _))⟩
   obtain ⟨c1,z1⟩:=HS0.out.2 (j*4+1) _ (List.getElem?_eq_getElem (by first | omega | (simp only [List.length_set];omega)))
   have HS1:Shut (WCells ((wr.setCell ⟨g,j*4,none⟩ (.int .i64 ((k:Int)+4*(j:Int)))).setCell ⟨g,j*4+1,none⟩ (.int .i64 ((k:Int)+4*(j:Int)+1))) g (((unS ys).set (j*4) (.int .i64 ((k:Int)+4*(j:Int)))).set (j*4+1) (.int .i64 ((k:Int)+4*(j:Int)+1)))):=⟨HS0.out.set (j*4+1) _ (by first | omega | (simp only [List.length_set];omega))⟩
   have HG1:Shut (w.grownBy ((wr.setCell ⟨g,j*4,none⟩ (.int .i64 ((k:Int)+4*(j:Int)))).setCell ⟨g,j*4+1,none⟩ (.int .i64 ((k:Int)+4*(j:Int)+1))) (some g)):=⟨(grownBy_two HG0.out (grownBy_setCell _ g _ _))⟩
   go_wp2_with fail
   refine (Q2.out _).mono ?_
   rintro e w2 ⟨rfl,hb2⟩
   have hv2:=HS1.out.grow hb2
   obtain ⟨c2,z2⟩:=hv2.2 (j*4+2) _ (List.getElem?_eq_getElem (by first | omega | (simp only [List.length_set];omega)))
   have HS2:Shut (WCells (w2.setCell ⟨g,j*4+2,none⟩ (.string (mt (k+4*j+2)))) g ((((unS ys).set (j*4) (.int .i64 ((k:Int)+4*(j:Int)))).set (j*4+1) (.int .i64 ((k:Int)+4*(j:Int)+1))).set (j*4+2) (.string (mt (k+4*j+2))))):=⟨hv2.set (j*4+2) _ (by first | omega | (simp only [List.length_set];omega))⟩
   have HG2:Shut (w.grownBy (w2.setCell ⟨g,j*4+2,none⟩ (.string (mt (k+4*j+2)))) (some g)):=⟨(grownBy_two (grownBy_two HG1.out (grownBy_below hb2)) (grownBy_setCell _ g _ _))⟩
   obtain ⟨c3,z3⟩:=HS2.out.2 (j*4+3) _ (List.getElem?_eq_getElem (by first | omega | (simp only [List.length_set];omega)))
   have HS3:Shut (WCells ((w2.setCell ⟨g,j*4+2,none⟩ (.string (mt (k+4*j+2)))).setCell ⟨g,j*4+3,none⟩ (.int .i64 ((k:Int)+4*(j:Int)+1+1+1))) g (((((unS ys).set (j*4) (.int .i64 ((k:Int)+4*(j:Int)))).set (j*4+1) (.int .i64 ((k:Int)+4*(j:Int)+1))).set (j*4+2) (.string (mt (k+4*j+2)))).set (j*4+3) (.int .i64 ((k:Int)+4*(j:Int)+1+1+1)))):=⟨HS2.out.set (j*4+3) _ (by first | omega | (simp only [List.length_set];omega))⟩
   have HG3:Shut (w.grownBy ((w2.setCell ⟨g,j*4+2,none⟩ (.string (mt (k+4*j+2)))).setCell ⟨g,j*4+3,none⟩ (.int .i64 ((k:Int)+4*(j:Int)+1+1+1))) (some g)):=⟨(grownBy_two HG2.out (grownBy_setCell _ g _ _))⟩
   have hE:(⟨(k:Int)+4*(j:Int),(k:Int)+4*(j:Int)+1,mt (k+4*j+2),(k:Int)+4*(j:Int)+1+1+1⟩:UnM)=markU (k+4*j):=by
    unfold markU
    congr 1 <;> (push_cast;omega)
   have HF:Shut (WCells ((w2.setCell ⟨g,j*4+2,none⟩ (.string (mt (k+4*j+2)))).setCell ⟨g,j*4+3,none⟩ (.int .i64 ((k:Int)+4*(j:Int)+1+1+1))) g (unS (ys.set j ⟨(k:Int)+4*(j:Int),(k:Int)+4*(j:Int)+1,mt (k+4*j+2),(k:Int)+4*(j:Int)+1+1+1⟩))):=⟨by
    have hfin:(((((unS ys).set (j*4) (.int .i64 ((k:Int)+4*(j:Int)))).set (j*4+1) (.int .i64 ((k:Int)+4*(j:Int)+1))).set (j*4+2) (.string (mt (k+4*j+2)))).set (j*4+3) (.int .i64 ((k:Int)+4*(j:Int)+1+1+1)))=unS (ys.set j ⟨(k:Int)+4*(j:Int),(k:Int)+4*(j:Int)+1,mt (k+4*j+2),(k:Int)+4*(j:Int)+1+1+1⟩):=flat_setL unC_len ys j (by have:=HH.out.1;omega) (⟨(k:Int)+4*(j:Int),(k:Int)+4*(j:Int)+1,mt (k+4*j+2),(k:Int)+4*(j:Int)+1+1+1⟩:UnM)
    have q:=HS3.out
    rw [hfin] at q
    exact q⟩
   rw [hE] at HF
   clear HS0 HS1 HS2 HS3 HG0 HG1 HG2 hw0 hb2 hv2 hE
   go_wp2_with fail
   go_roundw
   case rel =>
    refine ⟨j+1,ys.set j (markU (k+4*j)),by go_num,congrArg (Value.int .i64) (by omega),by omega,⟨by rw [List.length_set];exact HH.out.1,fun t ht=>?_,?_,?_⟩⟩
    rotate_left
    ·exact HF.out
    ·exact HG3.out
    by_cases hjt:t=j
    ·subst hjt
     rw [List.getElem?_set_self (by have:=HH.out.1;omega)]
    ·rw [List.getElem?_set_ne (Ne.symm hjt)]
     exact HH.out.2.1 t (by omega)
   case measure=>simp [intOf];omega
  ·have e:j=n:=by omega
   subst e
   have hfin:=marksU_all HH.out.1 HH.out.2.1
   subst hfin
   go_wp2_with fail
   go_ret
   exact ⟨rfl,HH.out.2.2.1,HH.out.2.2.2⟩
set_option maxHeartbeats 1000000 in
theorem heldUnitS_any (a:Option Addr) (k n ca:Nat) (w:World) (ha:UnRow w a (marksU k n)) (hk:0<k) (hn:k+4*n<=1000000000) :
  Calls Tw.prog 27 #[.slice a n ca,.int .i64 k] w fun e w'=>e = .returned (.int .i64 (k+4*n:Nat))/\Below w.heap.size w w':=by
 have HA:=Shut.mk ha
 clear ha
 go_enter Tw.func27,Tw.ntmps27
 go_wp2_with fail
 go_loopw [1,5] (fun c i wr=>∃ (j:Nat),i = .int .i64 j/\c = .int .i64 (k+4*j:Nat)/\j<=n/\Below w.heap.size w wr) (fun _ i _=>n - (intOf i).toNat)
 case atStart=>exact ⟨0,rfl,rfl,Nat.zero_le _,Below.refl _ _⟩
 case round =>
  obtain ⟨j,rfl,rfl,hj,hb⟩:=hrel
  have HB:=Shut.mk hb
  by_cases hlt:j<n
  ·obtain ⟨b,off,rfl,lb,hc⟩:=UnRow.at (HA.out.stays hb) (by rw [marksU_len];omega)
   obtain ⟨d0,d1,d2,d3⟩:=hc j (by rw [marksU_len];omega)
   rw [marksU_at] at d0 d1 d2 d3
   rw [show (markU (k+4*j)).group=(k:Int)+4*(j:Int) by show ((k+4*j:Nat):Int)=_;push_cast;omega] at d0
   rw [show (markU (k+4*j)).index=(k:Int)+4*(j:Int)+1 by show ((k+4*j+1:Nat):Int)=_;push_cast;omega] at d1
   rw [show (markU (k+4*j)).text=mt (k+4*j+2) from rfl] at d2
   rw [show (markU (k+4*j)).sum=(k:Int)+4*(j:Int)+1+1+1 by show ((k+4*j+3:Nat):Int)=_;push_cast;omega] at d3
   have j0:(0:Int)<=(j:Int):=by omega
   have j1:(j:Int)<(n:Int):=by omega
   have Q2:Shut (∀ W:World,Calls Tw.prog 57 #[.int .i64 ((k:Int)+4*(j:Int)+1+1)] W fun e w'=>e = .returned (.string (mt (k+4*j+2)))/\Below W.heap.size W w'):=⟨fun W=>by
    have q:=markText_any (k+4*j+2) W (by omega) (by omega)
    rwa [show ((k+4*j+2:Nat):Int)=(k:Int)+4*(j:Int)+1+1 by push_cast;omega] at q⟩
   have hs2:((mt (k+4*j+2)).toList==(mt (k+4*j+2)).toList)=true:=by simp
   clear hc hb
   go_wp2_with fail
   go_region_held3 (fun w'=>w'.cell? ⟨b,off+j*4+2,none⟩=some (.string (mt (k+4*j+2)))) (first | go_keep | (rw [hb2.cell (p:=⟨b,off+j*4+2,none⟩) (by exact lb)];assumption)) ((go_at_call 57;refine (Q2.out _).mono ?_;rintro e w2 ⟨rfl,hb2⟩))
   all_goals
    have lb2:b<w2.heap.size:=Nat.lt_of_lt_of_le lb hb2.size
    replace d3:=(hb2.cell (p:=⟨b,off+j*4+3,none⟩) lb).trans d3
    have HB2:Shut (Below w.heap.size w w2):=⟨HB.out.trans ((Below.drew (Below.refl _ _)).trans (hb2.mono HB.out.size))⟩
    clear hb2 d0 d1 d2
    go_wp2_with fail
    exact ⟨⟨j+1,by go_num,congrArg (Value.int .i64) (by omega),by omega,HB2.out⟩,by simp [intOf];omega⟩
  ·have e:j=n:=by omega
   subst e
   go_wp2_with fail
   go_ret
   exact ⟨rfl,hb⟩
end Go.Proofs.YteaieagkjepgiaaGreatDoorT
