/- Texts of ours, laid one behind the other: TMatB, TFieldM, TFieldN, TFieldS, TMatM, TMatC, TMatE, TMatF, TMatG, TMatI, TMatH, TMatJ, TBRowM, TFieldT. -/
import Derived.Test.YteaieagkjepgiaaGreatDoorPfT3
import Derived.Deep.CutRange
import Derived.Deep.AppendLies
import Derived.Deep.RegionHeld3
import Derived.WalkKit
import Derived.Deep.DrawnRows
import Derived.PlainAid
import Derived.BigQuiet
set_option linter.unusedVariables false
set_option linter.unusedSimpArgs false
/- . -/
namespace Go.Proofs.YteaieagkjepgiaaGreatDoorT
set_option maxRecDepth 100000
open Go.RowKit
attribute [local go_sem ↓] Go.wp_at_zero Go.wp_at_succ
def oneRow (n i:Nat):List Int:=(List.range n).map fun j=>if i=j then 1 else 0
def oneX (n:Int):List (List Int):=if 1<=n/\n<=8 then (List.range n.toNat).map (oneRow n.toNat) else []
theorem oneRow_len (n i:Nat):(oneRow n i).length=n:=by simp [oneRow]
theorem oneRow_set {n i:Nat} (_:i<n):(List.replicate n (0:Int)).set i 1=oneRow n i:=by
 apply List.ext_getElem
 ·simp [oneRow]
 ·intro j h1 h2
  simp only [oneRow,List.getElem_map,List.getElem_range,List.getElem_set]
  by_cases e:i=j
  ·rw [if_pos e,if_pos e]
  ·rw [if_neg e,if_neg e];simp
set_option maxRecDepth 100000 in
set_option maxHeartbeats 2000000 in
theorem specOneM (x:Int) (w:World):Calls Tw.prog 62 #[.int .i64 x] w fun e w'=>MPost (oneX x) w e w':=by
 by_cases hx:1<=x/\x<=8
 ·obtain ⟨n,rfl⟩:=Int.eq_ofNat_of_zero_le (show 0<=x by omega)
  have e0:oneX (n:Int)=(List.range n).map (oneRow n):=by unfold oneX;rw [if_pos hx];rfl
  rw [e0]
  have hn1:1<=n:=by omega
  have hn8:n<=8:=by omega
  have hin:(decide ((1:Int)<=(n:Int))&&decide ((n:Int)<=8))=true:=by simp;omega
  obtain ⟨i0,hi0,hz0,hz1,hz2⟩:=info_parts infoRow
  obtain ⟨i1,hi1,hy0,hy1,hy2⟩:=info_parts infoIntG
  clear hx e0
  go_enter Tw.func62,Tw.ntmps62
  go_wp2_with fail
  go_loopw [3,4] (fun v i wr=>∃ (ts:List SR) (vv:Value),vv=v/\i = .int .i64 (ts.length:Nat)/\ts.length<=n/\Shut (rws ts=(List.range ts.length).map (oneRow n))/\Shut (BI w wr vv ts)) (fun _ i _=>n - (intOf i).toNat)
  case atStart=>exact ⟨[],_,rfl,rfl,by simp,⟨rfl⟩,⟨BI.start w (World.ownsRow_made w #[] 0 (Nat.le_refl _) (by decide) rfl) ((Below.refl _ _).alloc (Nat.le_refl _) _)⟩⟩
  case round =>
   obtain ⟨ts,v,rfl,rfl,hk,hr,hbi⟩:=hrel
   by_cases hlt:ts.length<n
   ·have hlt':(ts.length:Int)<(n:Int):=by omega
    have k0:(0:Int)<=(ts.length:Int):=by omega
    have hsz:=hbi.out.bel.size
    go_wp2_with fail
    refine (lIn_is _ _ _ _ true hin).mono ?_
    rintro e w1 ⟨rfl,rfl⟩
    go_wp2_with (at_make;refine wpList_make_full _ rfl _ _ 39 rfl w1.heap.size 3 i1 _ 1 Tw.underlying39 hi1 hy0 hy1 .i64 .i64 _ _ n rfl rfl (by omega) (by omega) ?b2 ?b3 ?b4 ?_)
    case b2=>rw [hy2];omega
    case b3=>unfold maxLen;omega
    case b4=>omega
    intro wm hownm hgrm
    have hbm:Below w1.heap.size w1 wm:=(Below.refl _ _).grown hgrm (Nat.le_refl _) (fun j hj=>by simp at hj)
    have hrow:WCells wm w1.heap.size (ics (List.replicate n 0)):=by
     have h:=own_wcells hownm
     have e:(madeCells #[Value.int .i64 0] (n*1)).toList=ics (List.replicate n 0):=by rw [toList_madeCells_one];simp [ics]
     rw [Nat.mul_one] at e
     first | (rw [e] at h;exact h) | (rw [Nat.mul_one,e] at h;exact h)
    obtain ⟨c0,z0⟩:=hrow.2 ts.length _ (ics_get _ ts.length (by simp;exact hlt))
    have hset:=hrow.set ts.length (.int .i64 1) (by rw [ics_len];simp;exact hlt)
    rw [ics_set,oneRow_set hlt] at hset
    have hbi1:=hbi.out.below hbm
    have hot:BI w (wm.setCell ⟨w1.heap.size,ts.length,none⟩ (.int .i64 1)) v ts:=hbi1.other (gb_set' _ _ _ _) (Nat.le_refl w1.heap.size) (fun q hq=>(hbi.out.own.lt q hq).2) (fun s hs b e=>by obtain ⟨b',e',_,q,_⟩:=hbi.out.rows s hs;have:b'=b:=congrArg Addr.block (Option.some.inj (e'.symm.trans e));have:=q.1;omega) hsz hbi1.bel.size
    have HROW:Shut (WCells (wm.setCell ⟨w1.heap.size,ts.length,none⟩ (.int .i64 1)) w1.heap.size (ics (oneRow n ts.length))):=⟨hset⟩
    have HBI:Shut (BI w (wm.setCell ⟨w1.heap.size,ts.length,none⟩ (.int .i64 1)) v ts):=⟨hot⟩
    have HNEW:Shut ((∀ q,v.ownBlock=some q->q ≠ w1.heap.size)/\∀ s ∈ ts,s.loc ≠ some ⟨w1.heap.size,0,none⟩):=⟨fun q hq=>by have:=(hbi.out.own.lt q hq).2;omega,fun s hs e=>by obtain ⟨b',e',_,q,_⟩:=hbi.out.rows s hs;have:b'=w1.heap.size:=congrArg Addr.block (Option.some.inj (e'.symm.trans e));have:=q.1;omega⟩
    clear hset hot hrow hownm hgrm hbi hbi1
    go_upto_region 7 with fail
    obtain ⟨W2,hW2⟩:∃ W2,W2=wm.setCell ⟨w1.heap.size,ts.length,none⟩ (.int .i64 1):=⟨_,rfl⟩
    rw [<-hW2]
    rw [<-hW2] at HROW HBI
    have hs2:w.heap.size<=W2.heap.size:=HBI.out.bel.size
    have hown:=HBI.out.own
    clear hW2 c0 z0 hbm
    go_wp2_with (at_builtin;refine wpList_append_own _ rfl _ _ 65 rfl w.heap.size 39 i0 (.slice none 0 0) 1 24 Tw.underlying65 hi0 hz0 hz1 hz2 rfl (by decide) _ _ _ rfl (hown.alloc _) ⟨W2.heap.size,0,none⟩ 1 1 [.slice (some ⟨w1.heap.size,0,none⟩) n n] rfl rfl (cell_one_new _ _ _) ?c2 ?c3 ?c4 ?c5 ?_)
    case c2=>first | rfl | (intro u hu;simp at hu;subst hu;rfl)
    case c3=>unfold maxLen;omega
    case c4=>omega
    case c5=>first | omega | (simp;omega)
    ·intro v' w6 hown' hgrow _
     have hne:oneRow n ts.length ≠ []:=fun e=>by have:=congrArg List.length e;rw [oneRow_len] at this;simp at this;omega
     have hap:=HBI.out.append (cap:=n) hsz HROW.out hne (by rw [oneRow_len];exact Nat.le_refl _) HNEW.out.1 HNEW.out.2 (by rw [oneRow_len];exact hown') hgrow
     have HAP:Shut (BI w w6 v' (ts++[SR.mk (some ⟨w1.heap.size,0,none⟩) (oneRow n ts.length) n])):=⟨hap⟩
     have HR:Shut (rws (ts++[SR.mk (some ⟨w1.heap.size,0,none⟩) (oneRow n ts.length) n])=(List.range (ts.length+1)).map (oneRow n)):=⟨by rw [rws_snoc,hr.out,List.range_succ,List.map_append];rfl⟩
     clear hap hown' hgrow hown HBI HROW HNEW hr
     go_wp2_with fail
     go_roundw
     case rel=>exact ⟨_,v',rfl,by rw [List.length_append,List.length_singleton];go_num,by rw [List.length_append,List.length_singleton];omega,⟨by rw [List.length_append,List.length_singleton];exact HR.out⟩,HAP⟩
     case measure=>simp [intOf];omega
   ·have e:ts.length=n:=by omega
    have hlt':¬ (ts.length:Int)<(n:Int):=by omega
    have hX:rws ts=(List.range n).map (oneRow n):=by rw [hr.out,e]
    have hfin:=hbi.out.fin hX
    have HF:Shut (MAns wr v ((List.range n).map (oneRow n)) w.heap.size wr.heap.size):=⟨hfin⟩
    have HB:Hid (Below w.heap.size w wr):=hbi.out.bel
    clear hX hfin hbi hr e
    go_wp2_with fail
    go_ret
    exact ⟨v,rfl,HF.out,HB.out⟩
 ·have e0:oneX x=[]:=by unfold oneX;rw [if_neg hx]
  have hin:(decide ((1:Int)<=x)&&decide (x<=8))=false:=by simp only [Bool.and_eq_false_iff,decide_eq_false_iff_not];omega
  rw [e0]
  clear e0 hx
  go_enter Tw.func62,Tw.ntmps62
  go_wp2_with fail
  go_loopw [3,4] (fun v i wr=>v = .slice (some ⟨w.heap.size,0,none⟩) 0 0/\i = .int .i64 0/\Below w.heap.size w wr) (fun _ _ _=>0)
  case atStart=>exact ⟨rfl,rfl,(Below.refl _ _).alloc (Nat.le_refl _) _⟩
  case round =>
   obtain ⟨rfl,rfl,hb⟩:=hrel
   have HB:Hid (Below w.heap.size w wr):=hb
   clear hb
   by_cases h0:0<x
   ·go_wp2_with fail
    refine (lIn_is _ _ _ _ false hin).mono ?_
    rintro e w1 ⟨rfl,rfl⟩
    go_wp2_with fail
    go_ret
    exact ⟨_,rfl,MAns.empty _ _ _ _ _,HB.out⟩
   ·go_wp2_with fail
    go_ret
    exact ⟨_,rfl,MAns.empty _ _ _ _ _,HB.out⟩
end Go.Proofs.YteaieagkjepgiaaGreatDoorT
/- . -/
namespace Go.Proofs.YteaieagkjepgiaaGreatDoorT.W
abbrev B8:=BitVec 8
def xt (a:B8):B8:=if a.msb then (a <<< 1) ^^^ 29#8 else a <<< 1
def gb (b:B8) (i:Nat) (x:B8):B8:=if b.getLsbD i then x else 0#8
def gm (a b:B8):B8:=
 gb b 0 a ^^^ (gb b 1 (xt a) ^^^ (gb b 2 (xt (xt a)) ^^^ (gb b 3 (xt (xt (xt a))) ^^^ (gb b 4 (xt (xt (xt (xt a)))) ^^^ (gb b 5 (xt (xt (xt (xt (xt a))))) ^^^ (gb b 6 (xt (xt (xt (xt (xt (xt a)))))) ^^^ gb b 7 (xt (xt (xt (xt (xt (xt (xt a)))))))))))))
theorem xor_swap (a b c d:B8):(a ^^^ b) ^^^ (c ^^^ d)=(a ^^^ c) ^^^ (b ^^^ d):=by
 rw [BitVec.xor_assoc,BitVec.xor_assoc,<-BitVec.xor_assoc b c d,BitVec.xor_comm b c,BitVec.xor_assoc c b d]
theorem xor_two (a b:B8) {A B C:B8} (h:A ^^^ B=C):(a ^^^ A) ^^^ (b ^^^ B)=(a ^^^ b) ^^^ C:=by rw [xor_swap,h]
theorem xt_add (a b:B8):xt (a ^^^ b)=xt a ^^^ xt b:=by
 unfold xt
 rw [BitVec.msb_xor,BitVec.shiftLeft_xor_distrib]
 cases a.msb <;> cases b.msb <;> simp
 ·rw [BitVec.xor_assoc]
 ·rw [BitVec.xor_assoc,BitVec.xor_assoc,BitVec.xor_comm (b <<< 1)]
 ·rw [xor_swap,BitVec.xor_self,BitVec.xor_zero]
theorem gb_add (b:B8) (i:Nat) (x y:B8):gb b i (x ^^^ y)=gb b i x ^^^ gb b i y:=by
 unfold gb;cases b.getLsbD i <;> simp
theorem gb_bits (b c:B8) (i:Nat) (x:B8):gb (b ^^^ c) i x=gb b i x ^^^ gb c i x:=by
 unfold gb
 rw [BitVec.getLsbD_xor]
 cases b.getLsbD i <;> cases c.getLsbD i <;> simp
theorem gm_left (a b c:B8):gm (a ^^^ b) c=gm a c ^^^ gm b c:=by
 unfold gm
 simp only [xt_add,gb_add]
 exact (xor_two _ _ (xor_two _ _ (xor_two _ _ (xor_two _ _ (xor_two _ _ (xor_two _ _ (xor_two _ _ rfl))))))).symm
theorem gm_right (a b c:B8):gm a (b ^^^ c)=gm a b ^^^ gm a c:=by
 unfold gm
 simp only [gb_bits]
 exact (xor_two _ _ (xor_two _ _ (xor_two _ _ (xor_two _ _ (xor_two _ _ (xor_two _ _ (xor_two _ _ rfl))))))).symm
theorem xt_zero:xt 0#8=0#8:=by decide
theorem gb_zero (b:B8) (i:Nat):gb b i 0#8=0#8:=by unfold gb;simp
theorem gm_zero (a:B8):gm a 0#8=0#8:=by unfold gm gb;simp
theorem zero_gm (a:B8):gm 0#8 a=0#8:=by unfold gm;simp only [xt_zero,gb_zero];simp
theorem gm_step (a b:B8):gm a b=gb b 0 a ^^^ gm (xt a) (b >>> 1):=by
 have e:∀ (i:Nat) (x:B8),gb (b >>> 1) i x=gb b (i+1) x:=fun i x=>by unfold gb;rw [BitVec.getLsbD_ushiftRight,Nat.add_comm]
 have h8:∀ x:B8,gb b 8 x=0#8:=fun x=>by unfold gb;rw [BitVec.getLsbD_of_ge b 8 (by decide)];rfl
 unfold gm
 simp only [e]
 rw [show 7+1=8 from rfl,h8]
 simp
theorem bits_of:∀ x:B8,x=gb x 0 1#8 ^^^ (gb x 1 2#8 ^^^ (gb x 2 4#8 ^^^ (gb x 3 8#8 ^^^ (gb x 4 16#8 ^^^ (gb x 5 32#8 ^^^ (gb x 6 64#8 ^^^ gb x 7 128#8)))))):=by decide +kernel
def adds (f:B8->B8):Prop:=∀ x y,f (x ^^^ y)=f x ^^^ f y
theorem adds.zero {f:B8->B8} (h:adds f):f 0#8=0#8:=by
 have:=h 0#8 0#8
 rw [BitVec.xor_self,BitVec.xor_self] at this
 exact this
theorem adds.bit {f:B8->B8} (h:adds f) (x:B8) (i:Nat) (y:B8):f (gb x i y)=gb x i (f y):=by
 unfold gb;cases x.getLsbD i
 ·simp [h.zero]
 ·simp
theorem adds.ext {f g:B8->B8} (hf:adds f) (hg:adds g) (h:∀ e ∈ [1#8,2#8,4#8,8#8,16#8,32#8,64#8,128#8],f e=g e) (x:B8):f x=g x:=by
 have key:∀ {f:B8->B8},adds f->f x=gb x 0 (f 1#8) ^^^ (gb x 1 (f 2#8) ^^^ (gb x 2 (f 4#8) ^^^ (gb x 3 (f 8#8) ^^^ (gb x 4 (f 16#8) ^^^ (gb x 5 (f 32#8) ^^^ (gb x 6 (f 64#8) ^^^ gb x 7 (f 128#8))))))):=fun {f} hf=>by
  conv=>lhs;rw [bits_of x]
  rw [hf,hf,hf,hf,hf,hf,hf]
  simp only [hf.bit]
 rw [key hf,key hg]
 rw [h 1#8 (by simp),h 2#8 (by simp),h 4#8 (by simp),h 8#8 (by simp),h 16#8 (by simp),h 32#8 (by simp),h 64#8 (by simp),h 128#8 (by simp)]
def eightB:List B8:=[1#8,2#8,4#8,8#8,16#8,32#8,64#8,128#8]
theorem gm_comm_bits:∀ x ∈ eightB,∀ y ∈ eightB,gm x y=gm y x:=by decide +kernel
theorem gm_comm (a b:B8):gm a b=gm b a:=by
 refine adds.ext (f:=fun x=>gm x b) (g:=fun x=>gm b x) (fun x y=>gm_left x y b) (fun x y=>gm_right b x y) (fun e he=>?_) a
 exact adds.ext (f:=fun y=>gm e y) (g:=fun y=>gm y e) (fun x y=>gm_right e x y) (fun x y=>gm_left x y e) (fun d hd=>gm_comm_bits e he d hd) b
theorem gm_assoc_bits:∀ x ∈ eightB,∀ y ∈ eightB,∀ z ∈ eightB,gm (gm x y) z=gm x (gm y z):=by decide +kernel
theorem gm_assoc (a b c:B8):gm (gm a b) c=gm a (gm b c):=by
 refine adds.ext (f:=fun x=>gm (gm x b) c) (g:=fun x=>gm x (gm b c)) (fun x y=>by simp only [gm_left]) (fun x y=>gm_left x y _) (fun e he=>?_) a
 refine adds.ext (f:=fun y=>gm (gm e y) c) (g:=fun y=>gm e (gm y c)) (fun x y=>by simp only [gm_right,gm_left]) (fun x y=>by simp only [gm_left,gm_right]) (fun d hd=>?_) b
 exact adds.ext (f:=fun z=>gm (gm e d) z) (g:=fun z=>gm e (gm d z)) (fun x y=>gm_right _ x y) (fun x y=>by simp only [gm_right]) (fun g hg=>gm_assoc_bits e he d hd g hg) c
theorem gm_one (a:B8):gm a 1#8=a:=by
 unfold gm gb;simp
theorem one_gm (a:B8):gm 1#8 a=a:=by rw [gm_comm,gm_one]
def gp (a:B8):Nat->B8
 | 0=>1#8
 | n+1=>gm (gp a n) a
theorem gp_0 (a:B8):gp a 0=1#8:=rfl
theorem gp_succ (a:B8) (n:Nat):gp a (n+1)=gm (gp a n) a:=rfl
def round (a:B8):B8:=
 let b:=gm a a;let c:=gm b b;let d:=gm c c;let e:=gm d d;let f:=gm e e;let g:=gm f f;let h:=gm g g
 gm a (gm b (gm c (gm d (gm e (gm f (gm g h))))))
def gi (a:B8):B8:=if a=0#8 then 0#8 else gp a 254
theorem gi_zero:gi 0#8=0#8:=if_pos rfl
end Go.Proofs.YteaieagkjepgiaaGreatDoorT.W
/- . -/
namespace Go.Proofs.YteaieagkjepgiaaGreatDoorT
set_option maxRecDepth 100000
open Go.RowKit
open W (B8)
theorem i64_xor (m n:Nat) (hm:m<512) (hn:n<512):bits .xor .i64 (m:Int) (n:Int)=((m ^^^ n:Nat):Int):=by
 have h1:∀ k:Nat,k<512->(BitVec.ofInt 64 (k:Int)).toNat=k:=fun k hk=>by rw [BitVec.toNat_ofInt];omega
 have h2:m ^^^ n<2 ^ 9:=Nat.xor_lt_two_pow (by omega) (by omega)
 show IntKind.i64.wrap ((BitVec.ofInt 64 (m:Int) ^^^ BitVec.ofInt 64 (n:Int)).toNat:Nat)=_
 rw [BitVec.toNat_xor,h1 m hm,h1 n hn,IntKind.wrap_i64]
 omega
theorem b8_lt (A:B8):A.toNat<256:=A.isLt
theorem i64_xor8 (A B:B8):bits .xor .i64 (A.toNat:Int) (B.toNat:Int)=((A ^^^ B).toNat:Int):=by
 rw [i64_xor _ _ (by have:=b8_lt A;omega) (by have:=b8_lt B;omega),BitVec.toNat_xor]
def g8 (x:Int):B8:=BitVec.ofInt 8 x
theorem g8_nat (x:Int):((g8 x).toNat:Int)=x % 256:=by
 unfold g8
 rw [BitVec.toNat_ofInt]
 omega
theorem g8_back (A:B8):g8 (A.toNat:Int)=A:=by
 apply BitVec.eq_of_toNat_eq
 have:=g8_nat (A.toNat:Int)
 have:=b8_lt A
 omega
namespace W
theorem xt_big:∀ A:B8,256<=2*A.toNat->(2*A.toNat) ^^^ 285=(xt A).toNat:=by decide +kernel
theorem xt_small:∀ A:B8,2*A.toNat<256->2*A.toNat=(xt A).toNat:=by decide +kernel
theorem half8 (B:B8):B.toNat / 2=(B >>> 1).toNat:=by
 rw [BitVec.toNat_ushiftRight,Nat.shiftRight_eq_div_pow]
theorem odd8 (B:B8):B.getLsbD 0=decide (B.toNat % 2=1):=by rw [BitVec.getLsbD,Nat.testBit_zero]
theorem b8_zero {B:B8} (h:B.toNat=0):B=0#8:=BitVec.eq_of_toNat_eq h
def addL:List UInt8->List UInt8->List UInt8
 | [],b=>b
 | a,[]=>a
 | x::a,y::b=>(x ^^^ y)::addL a b
theorem addL_nil (a:List UInt8):addL a []=a:=by cases a <;> rfl
theorem addL_comm:∀ (a b:List UInt8),addL a b=addL b a
 | [],b=>by rw [addL_nil];cases b <;> rfl
 | x::a,[]=>rfl
 | x::a,y::b=>by rw [addL,addL,UInt8.xor_comm,addL_comm a b]
theorem addL_len:∀ (a b:List UInt8),(addL a b).length=max a.length b.length
 | [],b=>by simp [addL]
 | x::a,[]=>by simp [addL]
 | x::a,y::b=>by
  rw [addL,List.length_cons,addL_len a b]
  simp only [List.length_cons]
  omega
def mulB (A:B8) (c:UInt8):UInt8:=⟨gm A c.toBitVec⟩
def mulL (A:B8) (l:List UInt8):List UInt8:=l.map (mulB A)
theorem mulL_len (A:B8) (a:List UInt8):(mulL A a).length=a.length:=by simp [mulL]
def addTo (a b:List UInt8) (k:Nat):List UInt8:=addL (a.take k) (b.take k)++a.drop k
theorem addTo_all {a b:List UInt8} (h:b.length<=a.length):addTo a b b.length=addL a b:=by
 have key:∀ (a b:List UInt8),b.length<=a.length->addL (a.take b.length) b++a.drop b.length=addL a b:=by
  intro a b
  induction b generalizing a with
  | nil=>intro _;simp [addL_nil]
  | cons y b ih =>
   intro h
   cases a with
   | nil=>simp at h
   | cons x a =>
    simp only [List.length_cons,List.take_succ_cons,List.drop_succ_cons,addL,List.cons_append]
    rw [ih a (by simpa using h)]
 unfold addTo
 rw [List.take_of_length_le (Nat.le_refl _)]
 exact key a b h
theorem addTo_len {a b:List UInt8} {k:Nat} (h:b.length<=a.length):(addTo a b k).length=a.length:=by
 unfold addTo
 rw [List.length_append,addL_len,List.length_drop,List.length_take,List.length_take]
 omega
theorem addL_snoc:∀ (a b:List UInt8) (x y:UInt8),a.length=b.length->addL (a++[x]) (b++[y])=addL a b++[x ^^^ y]
 | [],[],x,y,_=>rfl
 | [],_::_,_,_,h=>by simp at h
 | _::_,[],_,_,h=>by simp at h
 | c::a,d::b,x,y,h=>by
  have:=addL_snoc a b x y (by simpa using h)
  simp only [List.cons_append,addL,this]
theorem at_mid (P:List UInt8) (x y:UInt8) (R:List UInt8) (k:Nat) (h:P.length=k):(P++x::R).getD k 0=x/\(P++x::R).set k y=P++y::R:=by
 subst h
 refine ⟨by simp [List.getD],?_⟩
 rw [List.set_append_right _ _ (Nat.le_refl _)]
 simp
theorem getD_at {l:List UInt8} {k:Nat} (h:k<l.length):l[k]=l.getD k 0:=by simp [List.getD,h]
theorem addTo_step {a b:List UInt8} {k:Nat} (h:b.length<=a.length) (hk:k<b.length) :
  (addTo a b k).getD k 0=a.getD k 0/\(addTo a b k).set k (a.getD k 0 ^^^ b.getD k 0)=addTo a b (k+1):=by
 have ha:k<a.length:=by omega
 have hl:(addL (a.take k) (b.take k)).length=k:=by rw [addL_len,List.length_take,List.length_take];omega
 have e1:a.drop k=a.getD k 0::a.drop (k+1):=by rw [List.drop_eq_getElem_cons ha,getD_at ha]
 have e2:a.take (k+1)=a.take k++[a.getD k 0]:=by rw [List.take_succ_eq_append_getElem ha,getD_at ha]
 have e3:b.take (k+1)=b.take k++[b.getD k 0]:=by rw [List.take_succ_eq_append_getElem hk,getD_at hk]
 have m:=at_mid (addL (a.take k) (b.take k)) (a.getD k 0) (a.getD k 0 ^^^ b.getD k 0) (a.drop (k+1)) k hl
 unfold addTo
 rw [e1,e2,e3,addL_snoc _ _ _ _ (by rw [List.length_take,List.length_take];omega),List.append_assoc]
 exact ⟨m.1,m.2⟩
theorem addTo_zero (a b:List UInt8):addTo a b 0=a:=by simp [addTo,addL]
def mulTo (A:B8) (l:List UInt8) (k:Nat):List UInt8:=mulL A (l.take k)++l.drop k
theorem mulTo_zero (A:B8) (l:List UInt8):mulTo A l 0=l:=by simp [mulTo,mulL]
theorem mulTo_all (A:B8) (l:List UInt8) {k:Nat} (h:l.length<=k):mulTo A l k=mulL A l:=by
 unfold mulTo
 rw [List.take_of_length_le h,List.drop_of_length_le h,List.append_nil]
theorem mulTo_len (A:B8) (l:List UInt8) (k:Nat):(mulTo A l k).length=l.length:=by
 unfold mulTo
 rw [List.length_append,mulL_len,List.length_take,List.length_drop]
 omega
theorem mulTo_step (A:B8) {l:List UInt8} {k:Nat} (h:k<l.length):(mulTo A l k).getD k 0=l.getD k 0/\(mulTo A l k).set k (mulB A (l.getD k 0))=mulTo A l (k+1):=by
 have e1:l.drop k=l.getD k 0::l.drop (k+1):=by rw [List.drop_eq_getElem_cons h,getD_at h]
 have e2:l.take (k+1)=l.take k++[l.getD k 0]:=by rw [List.take_succ_eq_append_getElem h,getD_at h]
 have m:=at_mid (mulL A (l.take k)) (l.getD k 0) (mulB A (l.getD k 0)) (l.drop (k+1)) k (by rw [mulL_len,List.length_take];omega)
 unfold mulTo
 rw [e1,e2]
 refine ⟨m.1,?_⟩
 rw [m.2]
 simp [mulL]
end W
end Go.Proofs.YteaieagkjepgiaaGreatDoorT
/- . -/
namespace Go.Proofs.YteaieagkjepgiaaGreatDoorT
set_option maxRecDepth 100000
open Go.RowKit
open W (B8)
attribute [local irreducible] W.gm W.xt W.gp W.gi
theorem l05Mod_any (x:Int) (w:World):Calls Tw.prog 81 #[.int .i64 x] w fun e w'=>e = .returned (.int .i64 ((g8 x).toNat:Int))/\w'=w:=by
 have hg:=g8_nat x
 have ht:x.tmod 256=x % 256\/(x.tmod 256=x % 256 - 256/\0<x % 256):=by
  have:=Int.tmod_eq_emod (a:=x) (b:=256)
  split at this
  ·left;omega
  ·right;refine ⟨by omega,?_⟩;omega
 by_cases h:x.tmod 256<0
 ·have e:x.tmod 256+256=((g8 x).toNat:Int):=by omega
  have hw:IntKind.i64.wrap (x.tmod 256+256)=x.tmod 256+256:=IntWalk.i64_in _ ⟨by omega,by omega⟩
  have HE:Hid _:=e
  clear e hg ht
  go_enter Tw.func81,Tw.ntmps81
  go_wp2_with fail
  go_ret
  exact ⟨by rw [<-HE.out];rfl,rfl⟩
 ·have e:x.tmod 256=((g8 x).toNat:Int):=by omega
  have HE:Hid _:=e
  clear e hg ht
  go_enter Tw.func81,Tw.ntmps81
  go_wp2_with fail
  go_ret
  exact ⟨by rw [<-HE.out];rfl,rfl⟩
theorem gm_round {P O A B:B8} (h:P=O ^^^ W.gm A B):(B.getLsbD 0=true->P=(O ^^^ A) ^^^ W.gm (W.xt A) (B >>> 1))/\(B.getLsbD 0=false->P=O ^^^ W.gm (W.xt A) (B >>> 1)):=by
 rw [W.gm_step A B] at h
 unfold W.gb at h
 refine ⟨fun hb=>?_,fun hb=>?_⟩
 ·rw [hb] at h;rw [h,BitVec.xor_assoc];rfl
 ·rw [hb] at h;simpa using h
set_option maxHeartbeats 1000000 in
theorem specMulG (x y:Int) (w:World):Calls Tw.prog 80 #[.int .i64 x,.int .i64 y] w fun e w'=>e = .returned (.int .i64 ((W.gm (g8 x) (g8 y)).toNat:Int))/\w'=w:=by
 obtain ⟨P,hP⟩:∃ P,P=W.gm (g8 x) (g8 y):=⟨_,rfl⟩
 rw [<-hP]
 go_enter Tw.func80,Tw.ntmps80
 go_wp2_with fail
 refine (l05Mod_any x _).mono ?_
 rintro e w1 ⟨rfl,rfl⟩
 go_wp2_with fail
 refine (l05Mod_any y _).mono ?_
 rintro e w2 ⟨rfl,rfl⟩
 have HP:Hid (P=0#8 ^^^ W.gm (g8 x) (g8 y)):=by rw [BitVec.zero_xor];exact hP
 clear hP
 generalize g8 x=A0 at *
 generalize g8 y=B0 at *
 go_wp2_with fail
 go_loop [0,1,5] (fun a b o=>∃ A B O:B8,a = .int .i64 (A.toNat:Int)/\b = .int .i64 (B.toNat:Int)/\o = .int .i64 (O.toNat:Int)/\P=O ^^^ W.gm A B) (fun _ b _=>(intOf b).toNat)
 case atStart=>exact ⟨A0,B0,0#8,rfl,rfl,rfl,HP.out⟩
 case round =>
  obtain ⟨A,B,O,rfl,rfl,rfl,hr⟩:=hrel
  have hA:=b8_lt A
  have hO:=b8_lt O
  have hBl:=b8_lt B
  by_cases hb0:0<B.toNat
  ·have hb0':(0:Int)<(B.toNat:Int):=by omega
   have hhalf:Value.int .i64 ((B.toNat:Int) / 2) = .int .i64 ((B >>> 1).toNat:Int):=by rw [<-W.half8];congr 1
   have HH:Hid _:=hhalf
   clear hhalf
   have hlt:(B >>> 1).toNat<B.toNat:=by rw [<-W.half8];omega
   have hodd:=W.odd8 B
   obtain ⟨r1,r2⟩:=gm_round hr
   have hxo:=i64_xor8 O A
   by_cases hbit:B.getLsbD 0=true
   ·have hm:((B.toNat:Int) % 2==1)=true:=by
     rw [hbit] at hodd
     have:=of_decide_eq_true hodd.symm
     rw [beq_iff_eq];omega
    have HR:Hid _:=r1 hbit
    clear r1 r2 hodd hbit hr
    by_cases hbig:256<=2*A.toNat
    ·have hx:bits .xor .i64 (2*(A.toNat:Int)) 285=((W.xt A).toNat:Int):=by
      have:=i64_xor (2*A.toNat) 285 (by omega) (by omega)
      rw [W.xt_big A hbig] at this
      rw [<-this];rfl
     have hbig':(256:Int)<=2*(A.toNat:Int):=by omega
     generalize W.xt A=A' at *
     generalize O ^^^ A=O' at *
     generalize B >>> 1=B' at *
     go_wp2_with fail
     go_round
     case rel=>exact ⟨A',B',O',rfl,HH.out,rfl,HR.out⟩
     case measure=>simp [intOf];omega
    ·have hx:2*(A.toNat:Int)=((W.xt A).toNat:Int):=by
      have:=W.xt_small A (by omega)
      omega
     have hbig':¬ (256:Int)<=2*(A.toNat:Int):=by omega
     have HX:Hid _:=hx
     clear hx
     generalize W.xt A=A' at *
     generalize O ^^^ A=O' at *
     generalize B >>> 1=B' at *
     go_wp2_with fail
     go_round
     case rel=>exact ⟨A',B',O',by rw [<-HX.out],HH.out,rfl,HR.out⟩
     case measure=>simp [intOf];omega
   ·have hbit':B.getLsbD 0=false:=by simpa using hbit
    have hm:((B.toNat:Int) % 2==1)=false:=by
     rw [hbit'] at hodd
     have:=of_decide_eq_false hodd.symm
     rw [beq_eq_false_iff_ne];omega
    have HR:Hid _:=r2 hbit'
    clear r1 r2 hodd hbit hbit' hr
    by_cases hbig:256<=2*A.toNat
    ·have hx:bits .xor .i64 (2*(A.toNat:Int)) 285=((W.xt A).toNat:Int):=by
      have:=i64_xor (2*A.toNat) 285 (by omega) (by omega)
      rw [W.xt_big A hbig] at this
      rw [<-this];rfl
     have hbig':(256:Int)<=2*(A.toNat:Int):=by omega
     generalize W.xt A=A' at *
     generalize B >>> 1=B' at *
     go_wp2_with fail
     go_round
     case rel=>exact ⟨A',B',O,rfl,HH.out,rfl,HR.out⟩
     case measure=>simp [intOf];omega
    ·have hx:2*(A.toNat:Int)=((W.xt A).toNat:Int):=by
      have:=W.xt_small A (by omega)
      omega
     have hbig':¬ (256:Int)<=2*(A.toNat:Int):=by omega
     have HX:Hid _:=hx
     clear hx
     generalize W.xt A=A' at *
     generalize B >>> 1=B' at *
     go_wp2_with fail
     go_round
     case rel=>exact ⟨A',B',O,by rw [<-HX.out],HH.out,rfl,HR.out⟩
     case measure=>simp [intOf];omega
  ·have hb0':¬ (0:Int)<(B.toNat:Int):=by omega
   have HR:Hid (P=O):=by
    have e:=W.b8_zero (B:=B) (by omega)
    rw [e,W.gm_zero,BitVec.xor_zero] at hr
    exact hr
   clear hr
   go_wp2_with fail
   go_ret
   exact ⟨by rw [HR.out];rfl,rfl⟩
theorem gp_next (A:B8) (k:Nat) (x:Int) (h:A=g8 x):W.gm (g8 ((W.gp A k).toNat:Int)) (g8 x)=W.gp A (k+1):=by
 rw [g8_back,<-h,W.gp_succ]
set_option maxHeartbeats 1000000 in
theorem specPowG_yes (x:Int) (n:Nat) (w:World) (h:n<=1000):Calls Tw.prog 82 #[.int .i64 x,.int .i64 n] w fun e w'=>e = .returned (.int .i64 ((W.gp (g8 x) n).toNat:Int))/\w'=w:=by
 have h1:decide ((0:Int)<=(n:Int))=true:=by simp
 have h2:decide ((n:Int)<=1000)=true:=by simp;omega
 go_enter Tw.func82,Tw.ntmps82
 go_wp2_with fail
 refine (l01In_any _ _ _ _).mono ?_
 rw [h1,h2]
 rintro e w' ⟨rfl,rfl⟩
 go_wp2_with fail
 go_loop [5,6] (fun o i=>∃ k:Nat,i = .int .i64 k/\k<=n/\o = .int .i64 ((W.gp (g8 x) k).toNat:Int)) (fun _ i=>n - (intOf i).toNat)
 case atStart=>exact ⟨0,rfl,Nat.zero_le _,by rw [W.gp_0];rfl⟩
 case round =>
  obtain ⟨k,rfl,hk,rfl⟩:=hrel
  by_cases hlt:k<n
  ·have hlt':(k:Int)<(n:Int):=by omega
   have hc:=specMulG ((W.gp (g8 x) k).toNat:Int) x
   rw [gp_next (g8 x) k x rfl] at hc
   go_wp2_with fail
   refine (hc _).mono ?_
   rintro e w1 ⟨rfl,rfl⟩
   go_wp2_with fail
   go_round
   case rel=>exact ⟨k+1,by go_num,by omega,rfl⟩
   case measure=>simp [intOf];omega
  ·have hlt':¬ (k:Int)<(n:Int):=by omega
   obtain rfl:k=n:=by omega
   go_wp2_with fail
   go_ret
   exact ⟨rfl,rfl⟩
theorem specInvG (x:Int) (w:World):Calls Tw.prog 63 #[.int .i64 x] w fun e w'=>e = .returned (.int .i64 ((W.gi (g8 x)).toNat:Int))/\w'=w:=by
 by_cases h0:g8 x=0#8
 ·have hz:(((g8 x).toNat:Int)==0)=true:=by rw [h0];rfl
  have HG:Hid (W.gi (g8 x)=0#8):=by rw [h0];exact W.gi_zero
  clear h0
  go_enter Tw.func63,Tw.ntmps63
  go_wp2_with fail
  refine (l05Mod_any x _).mono ?_
  rintro e w1 ⟨rfl,rfl⟩
  go_wp2_with fail
  go_ret
  exact ⟨by rw [HG.out];rfl,rfl⟩
 ·have hz:(((g8 x).toNat:Int)==0)=false:=by
   rw [beq_eq_false_iff_ne]
   intro e
   exact h0 (W.b8_zero (by omega))
  have hc:=specPowG_yes ((g8 x).toNat:Int) 254
  rw [g8_back] at hc
  have HG:Hid (W.gi (g8 x)=W.gp (g8 x) 254):=by unfold W.gi;exact if_neg h0
  clear h0
  have HC:Hid _:=hc
  clear hc
  go_enter Tw.func63,Tw.ntmps63
  go_wp2_with fail
  refine (l05Mod_any x _).mono ?_
  rintro e w1 ⟨rfl,rfl⟩
  go_wp2_with fail
  refine (HC.out _ (by omega)).mono ?_
  rintro e w2 ⟨rfl,rfl⟩
  go_wp2_with fail
  go_ret
  exact ⟨by rw [HG.out];rfl,rfl⟩
end Go.Proofs.YteaieagkjepgiaaGreatDoorT
/- . -/
namespace Go.Proofs.YteaieagkjepgiaaGreatDoorT.W
def xs:Nat->(Nat->B8)->B8
 | 0,_=>0#8
 | n+1,f=>xs n f ^^^ f n
theorem xs_0 (f:Nat->B8):xs 0 f=0#8:=rfl
theorem xs_succ (n:Nat) (f:Nat->B8):xs (n+1) f=xs n f ^^^ f n:=rfl
theorem xs_congr {n:Nat} {f g:Nat->B8} (h:∀ k,k<n->f k=g k):xs n f=xs n g:=by
 induction n with
 | zero=>rfl
 | succ n ih=>rw [xs,xs,ih (fun k hk=>h k (by omega)),h n (by omega)]
theorem xs_add (n:Nat) (f g:Nat->B8):xs n (fun k=>f k ^^^ g k)=xs n f ^^^ xs n g:=by
 induction n with
 | zero=>simp [xs]
 | succ n ih=>rw [xs,xs,xs,ih,xor_swap]
theorem xs_zero (n:Nat):xs n (fun _=>0#8)=0#8:=by
 induction n with
 | zero=>rfl
 | succ n ih=>rw [xs,ih];rfl
theorem xs_left (a:B8) (n:Nat) (f:Nat->B8):gm a (xs n f)=xs n (fun k=>gm a (f k)):=by
 induction n with
 | zero=>exact gm_zero a
 | succ n ih=>rw [xs,xs,gm_right,ih]
theorem xs_right (a:B8) (n:Nat) (f:Nat->B8):gm (xs n f) a=xs n (fun k=>gm (f k) a):=by
 induction n with
 | zero=>exact zero_gm a
 | succ n ih=>rw [xs,xs,gm_left,ih]
theorem xs_swap (n m:Nat) (f:Nat->Nat->B8):xs n (fun i=>xs m (fun j=>f i j))=xs m (fun j=>xs n (fun i=>f i j)):=by
 induction n with
 | zero=>exact (xs_zero m).symm
 | succ n ih=>simp only [xs];rw [ih,<-xs_add]
theorem xs_one {n k:Nat} {f:Nat->B8} (hk:k<n) (h:∀ j,j<n->j ≠ k->f j=0#8):xs n f=f k:=by
 induction n with
 | zero=>omega
 | succ n ih =>
  rw [xs]
  by_cases e:k=n
  ·subst e
   rw [xs_congr (g:=fun _=>0#8) (fun j hj=>h j (by omega) (by omega)),xs_zero,BitVec.zero_xor]
  ·rw [ih (by omega) (fun j hj hne=>h j (by omega) hne),h n (by omega) (by omega),BitVec.xor_zero]
abbrev Mx:=Nat->Nat->B8
def mm (n:Nat) (A B:Mx):Mx:=fun i j=>xs n fun k=>gm (A i k) (B k j)
def one:Mx:=fun i j=>if i=j then 1#8 else 0#8
def eqM (n m:Nat) (A B:Mx):Prop:=∀ i,i<n->∀ j,j<m->A i j=B i j
theorem eqM.refl (n m:Nat) (A:Mx):eqM n m A A:=fun _ _ _ _=>rfl
theorem eqM.symm {n m:Nat} {A B:Mx} (h:eqM n m A B):eqM n m B A:=fun i hi j hj=>(h i hi j hj).symm
theorem eqM.trans {n m:Nat} {A B C:Mx} (h:eqM n m A B) (k:eqM n m B C):eqM n m A C:=fun i hi j hj=>(h i hi j hj).trans (k i hi j hj)
theorem mm_assoc (n m:Nat) (A B C:Mx):mm m (mm n A B) C=mm n A (mm m B C):=by
 funext i j
 unfold mm
 rw [xs_congr (n:=m) (g:=fun k=>xs n fun l=>gm (gm (A i l) (B l k)) (C k j)) (fun k _=>xs_right _ n _),xs_swap]
 refine xs_congr fun l _=>?_
 rw [xs_left]
 exact xs_congr fun k _=>gm_assoc _ _ _
theorem mm_left {n r m:Nat} {A A' B:Mx} (h:eqM r n A A'):eqM r m (mm n A B) (mm n A' B):=fun i hi j _=>xs_congr fun k hk=>by rw [h i hi k hk]
theorem mm_right {n r m:Nat} {A B B':Mx} (h:eqM n m B B'):eqM r m (mm n A B) (mm n A B'):=fun i _ j hj=>xs_congr fun k hk=>by rw [h k hk j hj]
theorem one_mm {n i:Nat} (hi:i<n) (B:Mx) (j:Nat):mm n one B i j=B i j:=by
 unfold mm one
 rw [xs_one (k:=i) hi (fun k _ hk=>by rw [if_neg (Ne.symm hk),zero_gm]),if_pos rfl,one_gm]
def Linv (n:Nat) (B M:Mx):Prop:=eqM n n (mm n B M) one
structure Step (n:Nat) (P Q:Mx):Prop where
 left:Linv n P Q
 right:Linv n Q P
theorem Step.next {n:Nat} {P Q E D:Mx} (h:Step n P Q) (k:Step n E D):Step n (mm n E P) (mm n Q D):=by
 refine ⟨?_,?_⟩
 ·unfold Linv
  rw [mm_assoc,<-mm_assoc n n P Q D]
  have e1:eqM n n (mm n (mm n P Q) D) (mm n one D):=mm_left h.left
  have e2:eqM n n (mm n E (mm n (mm n P Q) D)) (mm n E (mm n one D)):=mm_right e1
  have e3:eqM n n (mm n E (mm n one D)) (mm n E D):=mm_right (fun i hi j _=>one_mm hi D j)
  exact (e2.trans e3).trans k.left
 ·unfold Linv
  rw [mm_assoc,<-mm_assoc n n D E P]
  have e1:eqM n n (mm n (mm n D E) P) (mm n one P):=mm_left k.right
  have e2:eqM n n (mm n Q (mm n (mm n D E) P)) (mm n Q (mm n one P)):=mm_right e1
  have e3:eqM n n (mm n Q (mm n one P)) (mm n Q P):=mm_right (fun i hi j _=>one_mm hi P j)
  exact (e2.trans e3).trans h.right
def Elim (n:Nat) (M A P:Mx):Prop:=(∃ Q,Step n P Q)/\eqM n n (mm n P M) A
def Cols (n c:Nat) (A:Mx):Prop:=∀ i,i<n->∀ j,j<c->A i j=one i j
end Go.Proofs.YteaieagkjepgiaaGreatDoorT.W
/- . -/
namespace Go.Proofs.YteaieagkjepgiaaGreatDoorT
set_option maxRecDepth 100000
open Go.RowKit
open W (B8 Mx)
attribute [local go_sem ↓] Go.wp_at_zero Go.wp_at_succ
attribute [local irreducible] W.gm W.xs
def mx (X:List (List Int)):Mx:=fun i j=>g8 ((X.getD i []).getD j 0)
def colsOf (X:List (List Int)):Nat:=(X.headD []).length
theorem matOk_iff {X:List (List Int)} (h:matOk X=true):(1<=X.length/\X.length<=8)/\(1<=colsOf X/\colsOf X<=8)/\∀ x ∈ X,x.length=colsOf X/\∀ y ∈ x,0<=y/\y<=255:=by
 unfold matOk at h
 simp only [Bool.and_eq_true,decide_eq_true_eq,List.all_eq_true] at h
 obtain ⟨h1,h2,h3⟩:=h
 have each:∀ x ∈ X,x.length=colsOf X/\(1<=x.length/\x.length<=8)/\∀ y ∈ x,0<=y/\y<=255:=fun x hx=>by
  have:=h1 x hx
  unfold rowOk numOk at this
  simp only [Bool.and_eq_true,decide_eq_true_eq,List.all_eq_true] at this
  obtain ⟨⟨q1,q2,q3⟩,q4⟩:=this
  exact ⟨q1,⟨by omega,by omega⟩,q4⟩
 refine ⟨⟨by omega,by omega⟩,?_,fun x hx=>⟨(each x hx).1,(each x hx).2.2⟩⟩
 cases X with
 | nil=>simp at h2
 | cons x X=>have:=each x (by simp);have e:colsOf (x::X)=x.length:=rfl;omega
structure RowAt2 (w:World) (cols:Nat) (A:Mx) (i b off:Nat) (loc:Option Addr) (cp:Nat) (row:List Int):Prop where
 cell:w.cell? ⟨b,off+i,none⟩=some (.slice loc cols cp)
 lt:b<w.heap.size
 len:row.length=cols
 crow:CRow w loc (ics row)
 num:∀ j,j<cols->A i j=g8 (row.getD j 0)
theorem RowAt2.below {w w':World} {cols:Nat} {A:Mx} {i b off:Nat} {loc:Option Addr} {cp:Nat} {row:List Int} (h:RowAt2 w cols A i b off loc cp row) (hb:Below w.heap.size w w'):RowAt2 w' cols A i b off loc cp row:=
 ⟨(hb.cell (p:=⟨b,off+i,none⟩) h.lt).trans h.cell,Nat.lt_of_lt_of_le h.lt hb.size,h.len,h.crow.stays hb,h.num⟩
theorem RowAt2.at {w:World} {cols:Nat} {A:Mx} {i b off:Nat} {loc:Option Addr} {cp:Nat} {row:List Int} (h:RowAt2 w cols A i b off loc cp row) {j:Nat} (hj:j<cols):∃ b' o' x,loc=some ⟨b',o',none⟩/\b'<w.heap.size/\w.cell? ⟨b',o'+j,none⟩=some (.int .i64 x)/\A i j=g8 x:=by
 obtain ⟨b',o',e,hb,hc⟩:=crow_int h.crow (by rw [h.len];omega)
 exact ⟨b',o',row.getD j 0,e,hb,hc j (by rw [h.len];exact hj),h.num j hj⟩
def Lies (w:World) (n cols:Nat) (A:Mx) (b off:Nat):Prop:=∀ i,i<n->∃ loc cp row,RowAt2 w cols A i b off loc cp row
theorem Lies.below {w w':World} {n cols:Nat} {A:Mx} {b off:Nat} (h:Lies w n cols A b off) (hb:Below w.heap.size w w'):Lies w' n cols A b off:=fun i hi=>by
 obtain ⟨loc,cp,row,hr⟩:=h i hi
 exact ⟨loc,cp,row,hr.below hb⟩
end Go.Proofs.YteaieagkjepgiaaGreatDoorT
/- . -/
namespace Go.Proofs.YteaieagkjepgiaaGreatDoorT
set_option maxRecDepth 100000
open Go.RowKit
open W (B8 Mx)
attribute [local go_sem ↓] Go.wp_at_zero Go.wp_at_succ
attribute [local irreducible] W.gm W.xs W.mm
end Go.Proofs.YteaieagkjepgiaaGreatDoorT
/- . -/
namespace Go.Proofs.YteaieagkjepgiaaGreatDoorT
set_option maxRecDepth 100000
open Go.RowKit
open W (B8 Mx)
attribute [local go_sem ↓] Go.wp_at_zero Go.wp_at_succ
attribute [local irreducible] W.gm W.xs W.mm
theorem g8_self {x:Int} (h0:0<=x) (h1:x<=255):((g8 x).toNat:Int)=x:=by rw [g8_nat];omega
end Go.Proofs.YteaieagkjepgiaaGreatDoorT
/- . -/
namespace Go.Proofs.YteaieagkjepgiaaGreatDoorT
set_option maxRecDepth 100000
open Go.RowKit
open W (B8 Mx)
attribute [local irreducible] W.gm W.xs W.mm
structure Sq (n:Nat) (X:List (List Int)):Prop where
 len:X.length=n
 row:∀ x ∈ X,x.length=n/\∀ y ∈ x,0<=y/\y<=255
theorem Sq.at {n:Nat} {X:List (List Int)} (h:Sq n X) {i:Nat} (hi:i<n):(X.getD i []).length=n/\∀ y ∈ X.getD i [],0<=y/\y<=255:=by
 have hi':i<X.length:=by rw [h.len];exact hi
 have e:X.getD i []=X[i]:=by simp [List.getD,hi']
 rw [e];exact h.row _ (List.getElem_mem hi')
theorem Sq.num {n:Nat} {X:List (List Int)} (h:Sq n X) {i j:Nat} (hi:i<n) (hj:j<n):(((mx X) i j).toNat:Int)=(X.getD i []).getD j 0:=by
 obtain ⟨h1,h2⟩:=h.at hi
 have hj':j<(X.getD i []).length:=by omega
 obtain ⟨q1,q2⟩:=h2 ((X.getD i []).getD j 0) (by generalize X.getD i []=r at *;simp [List.getD,hj'])
 exact g8_self q1 q2
theorem Sq.set {n:Nat} {X:List (List Int)} (h:Sq n X) (i:Nat) {r:List Int} (hl:r.length=n) (hr:∀ y ∈ r,0<=y/\y<=255):Sq n (X.set i r):=
 ⟨by rw [List.length_set];exact h.len,fun x hx=>by
  rcases List.mem_or_eq_of_mem_set hx with h1 | rfl
  ·exact h.row x h1
  ·exact ⟨hl,hr⟩⟩
theorem b8_num (A:B8):0<=(A.toNat:Int)/\(A.toNat:Int)<=255:=by have:=A.isLt;omega
def RowIn (w wr:World) (ga gb:Nat) (s:SR):Prop:=∃ b,s.loc=some ⟨b,0,none⟩/\w.heap.size<=b/\b ≠ ga/\b ≠ gb/\WCells wr b (ics s.row)/\s.row.length<=s.cap
theorem RowIn.below {w wr w':World} {ga gb:Nat} {s:SR} (h:RowIn w wr ga gb s) (hb:Below wr.heap.size wr w'):RowIn w w' ga gb s:=by
 obtain ⟨b,e,h1,h2,h3,h4,h5⟩:=h
 exact ⟨b,e,h1,h2,h3,h4.grow hb,h5⟩
structure Two (w wr:World) (ga gb:Nat) (ssA ssB:List SR):Prop where
 outA:WCells wr ga (svs ssA)
 outB:WCells wr gb (svs ssB)
 la:w.heap.size<=ga
 lb:w.heap.size<=gb
 ne:ga ≠ gb
 rowA:∀ s ∈ ssA,RowIn w wr ga gb s
 rowB:∀ s ∈ ssB,RowIn w wr ga gb s
 bel:Below w.heap.size w wr
theorem Two.below {w wr w':World} {ga gb:Nat} {ssA ssB:List SR} (h:Two w wr ga gb ssA ssB) (hb:Below wr.heap.size wr w'):Two w w' ga gb ssA ssB:=
 ⟨h.outA.grow hb,h.outB.grow hb,h.la,h.lb,h.ne,fun s hs=>(h.rowA s hs).below hb,fun s hs=>(h.rowB s hs).below hb,h.bel.trans (hb.mono h.bel.size)⟩
structure RowGot (w wr:World) (ga gb n g i b cp:Nat) (ss:List SR):Prop where
 lt:i<ss.length
 cell:wr.cell? ⟨g,i,none⟩=some (.slice (some ⟨b,0,none⟩) n cp)
 free:wr.frozen? ⟨g,i,none⟩=false
 is:ss.getD i default=⟨some ⟨b,0,none⟩,(rws ss).getD i [],cp⟩
 val:Value.slice (some ⟨b,0,none⟩) n cp=srv (ss.getD i default)
 row:RowIn w wr ga gb (ss.getD i default)
 num:∀ j,j<n->wr.cell? ⟨b,j,none⟩=some (.int .i64 (((rws ss).getD i []).getD j 0))
 crow:CRow wr (some ⟨b,0,none⟩) (ics ((rws ss).getD i []))
abbrev Apart (ss:List SR):Prop:=(ss.map SR.loc).Nodup
theorem apart_iff {ss:List SR}:Apart ss↔∀ i j,i<j->j<ss.length->(ss.getD i default).loc ≠ (ss.getD j default).loc:=by
 unfold Apart
 rw [List.nodup_iff_pairwise_ne,List.pairwise_iff_getElem]
 constructor
 ·intro h i j hij hj
  have:=h i j (by rw [List.length_map];omega) (by rw [List.length_map];exact hj) hij
  rw [List.getElem_map,List.getElem_map] at this
  rw [show ss.getD i default=ss[i] by simp [List.getD,show i<ss.length by omega],show ss.getD j default=ss[j] by simp [List.getD,hj]]
  exact this
 ·intro h i j hi hj hij
  rw [List.length_map] at hi hj
  have:=h i j hij hj
  rw [show ss.getD i default=ss[i] by simp [List.getD,hi],show ss.getD j default=ss[j] by simp [List.getD,hj]] at this
  rw [List.getElem_map,List.getElem_map]
  exact this
theorem Apart.ne {ss:List SR} (h:Apart ss) {i j:Nat} (hi:i<ss.length) (hj:j<ss.length) (hij:i ≠ j):(ss.getD i default).loc ≠ (ss.getD j default).loc:=by
 rcases Nat.lt_or_gt_of_ne hij with q | q
 ·exact apart_iff.1 h i j q hj
 ·exact fun e=>apart_iff.1 h j i q hi e.symm
theorem set_get {ss:List SR} {i:Nat} (s:SR) (hi:i<ss.length) (k:Nat):(ss.set i s).getD k default=if k=i then s else ss.getD k default:=by
 by_cases e:k=i
 ·subst e;rw [if_pos rfl];simp [List.getD,hi]
 ·rw [if_neg e];simp [List.getD,List.getElem?_set_ne (Ne.symm e)]
theorem Apart.set {ss:List SR} (h:Apart ss) {i:Nat} (hi:i<ss.length) {s:SR} (hs:∀ k,k<ss.length->k ≠ i->(ss.getD k default).loc ≠ s.loc):Apart (ss.set i s):=by
 rw [apart_iff]
 intro a b hab hb
 rw [List.length_set] at hb
 rw [set_get s hi,set_get s hi]
 by_cases e1:a=i
 ·rw [if_pos e1,if_neg (by omega)];exact fun e=>hs b hb (by omega) e.symm
 ·rw [if_neg e1]
  by_cases e2:b=i
  ·rw [if_pos e2];exact hs a (by omega) e1
  ·rw [if_neg e2];exact apart_iff.1 h a b hab hb
def ColDone (n c i:Nat) (A:Mx):Prop:=A c c=1#8/\∀ k,k<i->k<n->k ≠ c->A k c=0#8
theorem col_all {n c:Nat} {A:Mx} (h:W.Cols n c A) (hd:ColDone n c n A):W.Cols n (c+1) A:=fun i hi j hj=>by
 by_cases e:j<c
 ·exact h i hi j e
 ·obtain rfl:j=c:=by omega
  unfold W.one
  by_cases e2:i=j
  ·rw [if_pos e2,e2];exact hd.1
  ·rw [if_neg e2];exact hd.2 i hi hi e2
end Go.Proofs.YteaieagkjepgiaaGreatDoorT
/- . -/
namespace Go.Proofs.YteaieagkjepgiaaGreatDoorT
set_option maxRecDepth 100000
open Go.RowKit
open W (B8 Mx)
attribute [local irreducible] W.gm W.xs W.mm
structure Pu (n c:Nat) (M:Mx) (ssA ssB:List SR):Prop where
 sa:Sq n (rws ssA)
 sb:Sq n (rws ssB)
 ap:Apart ssB
 el:W.Elim n M (mx (rws ssA)) (mx (rws ssB))
 co:W.Cols n c (mx (rws ssA))
theorem Pu.next {n c:Nat} {M:Mx} {ssA ssB:List SR} (h:Pu n c M ssA ssB) (hd:ColDone n c n (mx (rws ssA))):Pu n (c+1) M ssA ssB:=⟨h.sa,h.sb,h.ap,h.el,col_all h.co hd⟩
theorem Sq.zero {n:Nat} {X:List (List Int)} (h:Sq n X) {i j:Nat} (hi:i<n) (hj:j<n):(X.getD i []).getD j 0=0↔mx X i j=0#8:=by
 have e:=h.num hi hj
 constructor
 ·intro h0;rw [h0] at e;exact W.b8_zero (by omega)
 ·intro h0;rw [h0] at e;exact e.symm
theorem Sq.ext {n:Nat} {X Y:List (List Int)} (h:Sq n X) (k:Sq n Y) (e:W.eqM n n (mx X) (mx Y)):X=Y:=by
 apply List.ext_getElem (by rw [h.len,k.len])
 intro i h1 h2
 have hi:i<n:=by rw [<-h.len];exact h1
 have a1:X.getD i []=X[i]:=by simp [List.getD,h1]
 have a2:Y.getD i []=Y[i]:=by simp [List.getD,h2]
 rw [<-a1,<-a2]
 have q1:=(h.at hi).1
 have q2:=(k.at hi).1
 apply List.ext_getElem (by rw [q1,q2])
 intro j h3 h4
 have hj:j<n:=by omega
 have b1:=h.num hi hj
 have b2:=k.num hi hj
 rw [e i hi j hj] at b1
 have c1:(X.getD i []).getD j 0=(X.getD i [])[j]:=by rw [List.getD_eq_getElem?_getD,List.getElem?_eq_getElem h3];rfl
 have c2:(Y.getD i []).getD j 0=(Y.getD i [])[j]:=by rw [List.getD_eq_getElem?_getD,List.getElem?_eq_getElem h4];rfl
 rw [<-c1,<-c2,<-b1,<-b2]
theorem RowGot.below {w wr w':World} {ga gb n g i b cp:Nat} {ss:List SR} (h:RowGot w wr ga gb n g i b cp ss) (hg:g<wr.heap.size) (hb:Below wr.heap.size wr w'):RowGot w w' ga gb n g i b cp ss:=by
 have hbl:b<wr.heap.size:=by
  obtain ⟨b',e,_,_,_,q,_⟩:=h.row
  rw [h.is] at e
  have:b=b':=congrArg Addr.block (Option.some.inj e)
  rw [this];exact q.1
 exact ⟨h.lt,(hb.cell (p:=⟨g,i,none⟩) hg).trans h.cell,(hb.frozen (p:=⟨g,i,none⟩) hg).trans h.free,h.is,h.val,h.row.below hb,fun j hj=>(hb.cell (p:=⟨b,j,none⟩) hbl).trans (h.num j hj),h.crow.stays hb⟩
end Go.Proofs.YteaieagkjepgiaaGreatDoorT
/- . -/
namespace Go.Proofs.YteaieagkjepgiaaGreatDoorT
set_option maxRecDepth 100000
open Go.RowKit
open W (B8 Mx)
attribute [local go_sem ↓] Go.wp_at_zero Go.wp_at_succ
attribute [local irreducible] W.gm W.xs W.mm W.gi mx
def Rows2 (w:World) (X:List (List Int)) (n b off:Nat):Prop:=b<w.heap.size/\∀ i,i<n->∃ b' o' cp,w.cell? ⟨b,off+i,none⟩=some (.slice (some ⟨b',o',none⟩) n cp)/\b'<w.heap.size/\∀ j,j<n->w.cell? ⟨b',o'+j,none⟩=some (.int .i64 ((X.getD i []).getD j 0))
theorem Rows2.below {w w':World} {X:List (List Int)} {n b off:Nat} (h:Rows2 w X n b off) (hb:Below w.heap.size w w'):Rows2 w' X n b off:=⟨Nat.lt_of_lt_of_le h.1 hb.size,fun i hi=>by
 obtain ⟨b',o',cp,e,hl,hc⟩:=h.2 i hi
 exact ⟨b',o',cp,(hb.cell (p:=⟨b,off+i,none⟩) h.1).trans e,Nat.lt_of_lt_of_le hl hb.size,fun j hj=>(hb.cell (p:=⟨b',o'+j,none⟩) hl).trans (hc j hj)⟩⟩
theorem own_some {w:World} {B n sz:Nat} {t:TypeId} {v:Value} {L:List Value} (h:w.ownsRow B t sz v n L) (hp:0<n):∃ g cap,v = .slice (some ⟨g,0,none⟩) n cap/\n<=cap:=by
 rcases h.2 with ⟨_,h0⟩ | ⟨g,cap,_,rfl,_,_,hc,_⟩
 ·omega
 ·exact ⟨g,cap,rfl,hc⟩
end Go.Proofs.YteaieagkjepgiaaGreatDoorT
/- . -/
namespace Go.Proofs.YteaieagkjepgiaaGreatDoorT
set_option maxRecDepth 100000
open Go.RowKit
open W (B8 Mx)
attribute [local go_sem ↓] Go.wp_at_zero Go.wp_at_succ
attribute [local irreducible] W.gm W.xs W.mm W.gi mx
end Go.Proofs.YteaieagkjepgiaaGreatDoorT
/- . -/
namespace Go.Proofs.YteaieagkjepgiaaGreatDoorT
set_option maxRecDepth 100000
open Go.RowKit
def BRow (w:World) (g:Nat) (l:List UInt8):Prop:=
 g<w.heap.size/\∀ j,j<l.length->w.cell? ⟨g,j,none⟩=some (.int .u8 ((l.getD j 0).toNat:Int))/\w.frozen? ⟨g,j,none⟩=false
theorem BRow.set {w:World} {g:Nat} {l:List UInt8} (h:BRow w g l) (i:Nat) (x:UInt8) (hi:i<l.length):BRow (w.setCell ⟨g,i,none⟩ (.int .u8 (x.toNat:Int))) g (l.set i x):=by
 refine ⟨by have:=h.1;simpa [World.setCell] using this,fun j hj=>?_⟩
 rw [List.length_set] at hj
 refine ⟨?_,(World.frozen?_setCell _ _ _ _).trans (h.2 j hj).2⟩
 by_cases e:j=i
 ·subst e
  rw [World.cell?_setCell_same _ _ _ (h.2 j hj).1]
  simp [List.getD,hi]
 ·rw [World.cell?_setCell_other _ _ _ _ (by first | (simp;done) | (simp;omega)),(h.2 j hj).1]
  simp [List.getD,Ne.symm e]
theorem brow_string {w:World} {g cap:Nat} {l:List UInt8} (h:BRow w g l) :
  (convert 63 9 (.slice (some ⟨g,0,none⟩) l.length cap)).run Tw.prog w = .ok (.string ⟨l.toArray⟩) w:=
 run_convert_bytes_back w 63 9 5 ⟨g,0,none⟩ cap l Tw.underlying63 Tw.underlying5 Tw.underlying9 (fun j hj=>by
  have e:(⟨g,0,none⟩:Addr).add j=⟨g,j,none⟩:=by cases j <;> simp [Addr.add]
  rw [e,(h.2 j hj).1]
  simp [List.getD,hj])
theorem bytes_made (w:World) (s:ByteArray):∃ (w':World) (c:Nat),(convert 9 63 (.string s)).run Tw.prog w = .ok (.slice (some ⟨w.heap.size,0,none⟩) s.size c) w'/\BRow w' w.heap.size s.data.toList/\Below w.heap.size w w':=by
 refine ⟨_,_,run_bytes_of_string w 9 63 5 s Tw.underlying9 Tw.underlying63 Tw.underlying5,⟨?_,fun j hj=>⟨?_,?_⟩⟩,?_⟩
 ·show w.heap.size<(w.heap.push _).size
  simp
 ·rw [show w.heap.size=w.drew.heap.size from rfl,World.cell?_alloc_mark]
  have hj':j<s.data.size:=by simpa using hj
  unfold bytesRow
  rw [Array.getElem?_append_left (by simpa using hj')]
  simp only [Array.getElem?_map,List.getD,Array.getElem?_toList]
  rw [Array.getElem?_eq_getElem hj']
  rfl
 ·rw [show w.heap.size=w.drew.heap.size from rfl,World.frozen?_alloc_mark]
  have hj':j<s.data.size:=by simpa using hj
  have h2:j<(bytesRow s (grownCap w s.size 0 5)).size:=by unfold bytesRow;rw [Array.size_append,Array.size_map];omega
  rw [decide_eq_false (show ¬ (bytesRow s (grownCap w s.size 0 5)).size<=j by omega)]
  rfl
 ·exact (Below.drew (Below.refl _ _)).alloc (Nat.le_refl _) _
end Go.Proofs.YteaieagkjepgiaaGreatDoorT
/- . -/
namespace Go.Proofs.YteaieagkjepgiaaGreatDoorT
set_option maxRecDepth 100000
open Go.RowKit
open W (B8)
attribute [local go_sem ↓] Go.wp_at_zero Go.wp_at_succ
attribute [local irreducible] W.gm
def addB (a b:ByteArray):ByteArray:=⟨(W.addL a.data.toList b.data.toList).toArray⟩
def mulT (A:B8) (s:ByteArray):ByteArray:=⟨(W.mulL A s.data.toList).toArray⟩
theorem addB_comm (a b:ByteArray):addB a b=addB b a:=by unfold addB;rw [W.addL_comm]
theorem u8_xor (x y:UInt8):bits .xor .u8 (x.toNat:Int) (y.toNat:Int)=((x ^^^ y).toNat:Int):=by
 have h1:∀ z:UInt8,(BitVec.ofInt 8 (z.toNat:Int)).toNat=z.toNat:=fun z=>by rw [BitVec.toNat_ofInt];have:=z.toNat_lt;omega
 have h2:=(x ^^^ y).toNat_lt
 show IntKind.u8.wrap ((BitVec.ofInt 8 (x.toNat:Int) ^^^ BitVec.ofInt 8 (y.toNat:Int)).toNat:Nat)=_
 rw [BitVec.toNat_xor,h1,h1,<-UInt8.toNat_xor]
 rw [UInt8.toNat_xor] at h2 ⊢
 simp [IntKind.wrap,IntKind.bits,IntKind.signed]
 omega
theorem get_list (s:ByteArray) (k:Nat) (h:k<s.size):Go.PlainAid.bt s k=((s.data.toList.getD k 0).toNat:Int):=by
 unfold Go.PlainAid.bt
 rw [dif_pos h]
 have:s.data.toList.getD k 0=s[k]:=by
  have hk:k<s.data.size:=h
  rw [List.getD_eq_getElem?_getD,Array.getElem?_toList,Array.getElem?_eq_getElem hk]
  rfl
 rw [this]
set_option maxHeartbeats 1000000 in
theorem specAdd_long (a b:ByteArray) (w:World) (ha:a.size<=1048576) (h:b.size<=a.size) :
  Calls Tw.prog 32 #[.string a,.string b] w fun e w'=>e = .returned (.string (addB a b))/\Below w.heap.size w w':=by
 have hg:=Go.PlainAid.get_bt b
 have hlt':¬ (a.size:Int)<(b.size:Int):=by omega
 obtain ⟨w1,c1,hcv,hrow,hb1⟩:=bytes_made w a
 have hla:a.data.toList.length=a.size:=rfl
 have hlb:b.data.toList.length=b.size:=rfl
 have HB1:Hid (Below w.heap.size w w1):=hb1
 have HROW:Hid (BRow w1 w.heap.size a.data.toList):=hrow
 clear hb1 hrow
 go_enter Tw.func32,Tw.ntmps32
 go_wp2_with fail
 go_loopw [7] (fun i wr=>∃ k:Nat,i = .int .i64 k/\k<=b.size/\BRow wr w.heap.size (W.addTo a.data.toList b.data.toList k)/\Below w.heap.size w wr) (fun i _=>b.size - (intOf i).toNat)
 case atStart=>exact ⟨0,rfl,Nat.zero_le _,by rw [W.addTo_zero];exact HROW.out,HB1.out⟩
 case round =>
  obtain ⟨k,rfl,hk,hrw,hbl⟩:=hrel
  have hll:=W.addTo_len (a:=a.data.toList) (b:=b.data.toList) (k:=k) h
  by_cases hlt:k<b.size
  ·have k0:(0:Int)<=(k:Int):=by omega
   have k1:(k:Int)<(b.size:Int):=by omega
   have k2:(k:Int)<(a.size:Int):=by omega
   have hst:=W.addTo_step (a:=a.data.toList) (b:=b.data.toList) (k:=k) h hlt
   have hc:=hrw.2 k (by omega)
   rw [hst.1] at hc
   obtain ⟨hc1,hc2⟩:=hc
   have hgl:=get_list b k hlt
   have hset:=hrw.set k (a.data.toList.getD k 0 ^^^ b.data.toList.getD k 0) (by omega)
   rw [hst.2] at hset
   have hix:=index_str b k hlt
   rw [hgl] at hix
   have hxo:=u8_xor (a.data.toList.getD k 0) (b.data.toList.getD k 0)
   generalize a.data.toList.getD k 0=x at *
   generalize b.data.toList.getD k 0=y at *
   have HS:Hid (BRow (wr.setCell ⟨w.heap.size,k,none⟩ (.int .u8 ((x ^^^ y).toNat:Int))) w.heap.size (W.addTo a.data.toList b.data.toList (k+1))):=hset
   have HBL:Hid (Below w.heap.size w wr):=hbl
   clear hset hst hgl hrw hbl hg
   generalize x ^^^ y=z at *
   go_wp2_with fail
   go_region
   all_goals go_wp2_with fail
   all_goals exact ⟨⟨k+1,by go_num,by omega,HS.out,Below.drew (HBL.out.setCell (Nat.le_refl _) _)⟩,by simp [intOf];omega⟩
  ·have e:k=b.size:=by omega
   subst e
   have hall:=W.addTo_all (a:=a.data.toList) (b:=b.data.toList) h
   rw [hlb] at hall
   have hcv2:=brow_string (cap:=c1) hrw
   rw [hall] at hcv2
   have hl2:(W.addL a.data.toList b.data.toList).length=a.size:=by rw [<-hall];exact hll
   rw [hl2] at hcv2
   have HBL:Hid (Below w.heap.size w wr):=hbl
   clear hrw hall hl2 hll hbl hg
   go_wp2_with fail
   go_ret
   exact ⟨rfl,HBL.out⟩
set_option maxHeartbeats 1000000 in
theorem specAdd_short (b a:ByteArray) (w:World) (ha:a.size<=1048576) (h':b.size<a.size) :
  Calls Tw.prog 32 #[.string b,.string a] w fun e w'=>e = .returned (.string (addB b a))/\Below w.heap.size w w':=by
 rw [addB_comm b a]
 have h:b.size<=a.size:=by omega
 have hg:=Go.PlainAid.get_bt b
 have hlt':(b.size:Int)<(a.size:Int):=by omega
 clear h'
 obtain ⟨w1,c1,hcv,hrow,hb1⟩:=bytes_made w a
 have hla:a.data.toList.length=a.size:=rfl
 have hlb:b.data.toList.length=b.size:=rfl
 have HB1:Hid (Below w.heap.size w w1):=hb1
 have HROW:Hid (BRow w1 w.heap.size a.data.toList):=hrow
 clear hb1 hrow
 go_enter Tw.func32,Tw.ntmps32
 go_wp2_with fail
 go_loopw [7] (fun i wr=>∃ k:Nat,i = .int .i64 k/\k<=b.size/\BRow wr w.heap.size (W.addTo a.data.toList b.data.toList k)/\Below w.heap.size w wr) (fun i _=>b.size - (intOf i).toNat)
 case atStart=>exact ⟨0,rfl,Nat.zero_le _,by rw [W.addTo_zero];exact HROW.out,HB1.out⟩
 case round =>
  obtain ⟨k,rfl,hk,hrw,hbl⟩:=hrel
  have hll:=W.addTo_len (a:=a.data.toList) (b:=b.data.toList) (k:=k) h
  by_cases hlt:k<b.size
  ·have k0:(0:Int)<=(k:Int):=by omega
   have k1:(k:Int)<(b.size:Int):=by omega
   have k2:(k:Int)<(a.size:Int):=by omega
   have hst:=W.addTo_step (a:=a.data.toList) (b:=b.data.toList) (k:=k) h hlt
   have hc:=hrw.2 k (by omega)
   rw [hst.1] at hc
   obtain ⟨hc1,hc2⟩:=hc
   have hgl:=get_list b k hlt
   have hset:=hrw.set k (a.data.toList.getD k 0 ^^^ b.data.toList.getD k 0) (by omega)
   rw [hst.2] at hset
   have hix:=index_str b k hlt
   rw [hgl] at hix
   have hxo:=u8_xor (a.data.toList.getD k 0) (b.data.toList.getD k 0)
   generalize a.data.toList.getD k 0=x at *
   generalize b.data.toList.getD k 0=y at *
   have HS:Hid (BRow (wr.setCell ⟨w.heap.size,k,none⟩ (.int .u8 ((x ^^^ y).toNat:Int))) w.heap.size (W.addTo a.data.toList b.data.toList (k+1))):=hset
   have HBL:Hid (Below w.heap.size w wr):=hbl
   clear hset hst hgl hrw hbl hg
   generalize x ^^^ y=z at *
   go_wp2_with fail
   go_region
   all_goals go_wp2_with fail
   all_goals exact ⟨⟨k+1,by go_num,by omega,HS.out,Below.drew (HBL.out.setCell (Nat.le_refl _) _)⟩,by simp [intOf];omega⟩
  ·have e:k=b.size:=by omega
   subst e
   have hall:=W.addTo_all (a:=a.data.toList) (b:=b.data.toList) h
   rw [hlb] at hall
   have hcv2:=brow_string (cap:=c1) hrw
   rw [hall] at hcv2
   have hl2:(W.addL a.data.toList b.data.toList).length=a.size:=by rw [<-hall];exact hll
   rw [hl2] at hcv2
   have HBL:Hid (Below w.heap.size w wr):=hbl
   clear hrw hall hl2 hll hbl hg
   go_wp2_with fail
   go_ret
   exact ⟨rfl,HBL.out⟩
theorem specAddText (a b:ByteArray) (w:World) (ha:a.size<=1048576) (hb:b.size<=1048576):Calls Tw.prog 32 #[.string a,.string b] w fun e w'=>e = .returned (.string (addB a b))/\Below w.heap.size w w':=by
 by_cases h:b.size<=a.size
 ·exact specAdd_long a b w ha h
 ·exact specAdd_short a b w hb (by omega)
theorem mul_word (A:B8) (c:UInt8) (x:Int) (h:A=g8 x):W.gm (g8 x) (g8 (c.toNat:Int))=(W.mulB A c).toBitVec/\IntKind.u8.wrap ((W.mulB A c).toBitVec.toNat:Int)=((W.mulB A c).toNat:Int)/\IntKind.i64.wrap (c.toNat:Int)=(c.toNat:Int):=by
 have e:g8 (c.toNat:Int)=c.toBitVec:=g8_back c.toBitVec
 have hl:=(W.mulB A c).toNat_lt
 have hc:=c.toNat_lt
 refine ⟨by rw [e,<-h];rfl,?_,IntWalk.i64_in _ ⟨by omega,by omega⟩⟩
 show IntKind.u8.wrap ((W.mulB A c).toNat:Int)=_
 simp [IntKind.wrap,IntKind.bits,IntKind.signed]
 omega
set_option maxHeartbeats 1000000 in
theorem specMulText (x:Int) (s:ByteArray) (w:World) (hs:s.size<=1048576):Calls Tw.prog 61 #[.int .i64 x,.string s] w fun e w'=>e = .returned (.string (mulT (g8 x) s))/\Below w.heap.size w w':=by
 obtain ⟨A,hA⟩:∃ A,A=g8 x:=⟨_,rfl⟩
 rw [<-hA]
 have HA:Hid (A=g8 x):=hA
 clear hA
 obtain ⟨w1,c1,hcv,hrow,hb1⟩:=bytes_made w s
 have HB1:Hid (Below w.heap.size w w1):=hb1
 have HROW:Hid (BRow w1 w.heap.size s.data.toList):=hrow
 clear hb1 hrow
 go_enter Tw.func61,Tw.ntmps61
 go_wp2_with fail
 go_loopw [6] (fun i wr=>∃ k:Nat,i = .int .i64 k/\k<=s.size/\BRow wr w.heap.size (W.mulTo A s.data.toList k)/\Below w.heap.size w wr) (fun i _=>s.size - (intOf i).toNat)
 case atStart=>exact ⟨0,rfl,Nat.zero_le _,by rw [W.mulTo_zero];exact HROW.out,HB1.out⟩
 case round =>
  obtain ⟨k,rfl,hk,hrw,hbl⟩:=hrel
  have hll:=W.mulTo_len A s.data.toList k
  have hls:s.data.toList.length=s.size:=rfl
  by_cases hlt:k<s.size
  ·have k0:(0:Int)<=(k:Int):=by omega
   have k1:(k:Int)<(s.size:Int):=by omega
   have hst:=W.mulTo_step A (l:=s.data.toList) (k:=k) hlt
   have hc:=hrw.2 k (by omega)
   rw [hst.1] at hc
   obtain ⟨hc1,hc2⟩:=hc
   have hset:=hrw.set k (W.mulB A (s.data.toList.getD k 0)) (by omega)
   rw [hst.2] at hset
   generalize s.data.toList.getD k 0=c at *
   obtain ⟨m1,m2,m3⟩:=mul_word A c x HA.out
   have hcall:=specMulG x (c.toNat:Int)
   rw [m1] at hcall
   have HS:Hid (BRow (wr.setCell ⟨w.heap.size,k,none⟩ (.int .u8 ((W.mulB A c).toNat:Int))) w.heap.size (W.mulTo A s.data.toList (k+1))):=hset
   have HBL:Hid (Below w.heap.size w wr):=hbl
   clear hset hst hrw hbl m1
   generalize (W.mulB A c).toBitVec=z at *
   generalize W.mulB A c=y at *
   go_wp2_with fail
   refine (hcall _).mono ?_
   clear hcall
   rintro e w2 ⟨rfl,rfl⟩
   go_wp2_with fail
   go_roundw
   case rel=>exact ⟨k+1,by go_num,by omega,HS.out,HBL.out.setCell (Nat.le_refl _) _⟩
   case measure=>simp [intOf];omega
  ·have e:k=s.size:=by omega
   subst e
   have hall:=W.mulTo_all A s.data.toList (k:=s.size) (by omega)
   have hcv2:=brow_string (cap:=c1) hrw
   rw [hall,W.mulL_len,hls] at hcv2
   have HBL:Hid (Below w.heap.size w wr):=hbl
   clear hrw hall hll hbl
   go_wp2_with fail
   go_ret
   exact ⟨rfl,HBL.out⟩
theorem addB_size (a b:ByteArray):(addB a b).size=max a.size b.size:=by
 unfold addB
 show (W.addL a.data.toList b.data.toList).toArray.size=_
 rw [List.size_toArray,W.addL_len]
 rfl
theorem mulT_size (A:B8) (s:ByteArray):(mulT A s).size=s.size:=by
 unfold mulT
 show (W.mulL A s.data.toList).toArray.size=_
 rw [List.size_toArray,W.mulL_len]
 rfl
end Go.Proofs.YteaieagkjepgiaaGreatDoorT
