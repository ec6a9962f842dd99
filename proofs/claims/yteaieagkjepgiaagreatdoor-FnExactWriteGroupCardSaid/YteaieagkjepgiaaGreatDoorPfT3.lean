/- Texts of ours, laid one behind the other: TSumS, TUnM, TPlM, TSpnB, TStrsA, TDecM, TDec, TStrsB, TTvA, TStrV, TSpnC, TNestB, TNestC, TNestD, TNestE, TNestF, TMatA. -/
import Derived.Test.YteaieagkjepgiaaGreatDoorPfT2
import Derived.Deep.RegionHeld3
import Derived.Deep.DrawnRows
import Derived.Deep.AppendLies
import Derived.OwnWalk
import Derived.Lib.LaidTab
import Derived.Lib.SmallJoins
import Derived.Deep.QuietTactic
import Derived.BigQuiet
import Derived.PlainAid
import Derived.Deep.LoopGhost
set_option linter.unusedVariables false
set_option linter.unusedSimpArgs false
/- . -/
namespace Go.Proofs.YteaieagkjepgiaaGreatDoorT
set_option maxRecDepth 100000
open Go.RowKit
open W (B32)
open Go.PlainAid (bt)
attribute [local go_sem ↓] Go.wp_at_zero Go.wp_at_succ
def sumTab:List Int:=[0,1166650509,2333301018,3466261911,3189058079,4221339282,889615109,1888477064,3558460437,2442158232,1594529039,444807554,1779230218,797264519,3776954128,2761298845]
abbrev SumTab (w:World):Prop:=Lib.TabIs Tw.prog w "loop.example/g00197/impl.sumSteps" .u32 sumTab
theorem gSum:Tw.prog.globalNamed "loop.example/g00197/impl.sumSteps" = some 0:=by kernel_rfl
theorem SumTab.stays {w w':World} (h:SumTab w) (hb:Below w.heap.size w w'):SumTab w':=Joins.tab_stays gSum h hb (Nat.le_refl _)
theorem sum_cell {w:World} (h:SumTab w) (x:B32):w.cell? ⟨0,(x &&& 15#32).toNat,none⟩=some (u32 (W.st4 (x &&& 15#32))):=by
 have hn:(x &&& 15#32).toNat<16:=by
  rw [BitVec.toNat_and];exact Nat.lt_of_le_of_lt Nat.and_le_right (by decide)
 have hc:=World.var?_cell gSum h (x &&& 15#32).toNat
 have e:W.tab (x &&& 15#32).toNat=(W.st4 (x &&& 15#32)).toNat:=by
  unfold W.tab;rw [BitVec.ofNat_toNat];simp
 have ht:=congrArg (·[(x &&& 15#32).toNat]?) W.tab_all
 simp only [List.getElem?_map,List.getElem?_range hn,Option.map_some] at ht
 rw [hc,show u32 (W.st4 (x &&& 15#32)) = .int .u32 ((W.tab (x &&& 15#32).toNat:Nat):Int) by rw [e]]
 generalize (x &&& 15#32).toNat=n at hn ht
 generalize W.tab n=m at ht
 match n,hn with
 | 0,_ | 1,_ | 2,_ | 3,_ | 4,_ | 5,_ | 6,_ | 7,_ | 8,_ | 9,_ | 10,_ | 11,_ | 12,_ | 13,_ | 14,_ | 15,_=>simp at ht;subst ht;rfl
theorem fourSteps_plain (a q v r:Int) (n:Nat) (w:World) (h1:bits BinOp.and IntKind.u32 a 15=(n:Int)) (h2:a / 16=q) (hn:(n:Int)<16) (hc:w.cell? ⟨0,n,none⟩=some (.int .u32 v))
  (h3:bits BinOp.xor IntKind.u32 q v=r):Calls Tw.prog 108 #[.int .u32 a] w fun e w'=>e = .returned (.int .u32 r)/\w'=w:=by
 have hn0:(0:Int)<=(n:Int):=by omega
 go_enter Tw.func108,Tw.ntmps108
 go_wp2_with fail
 go_ret
 exact ⟨rfl,rfl⟩
theorem fourSteps (x:B32) (w:World) (h:SumTab w) :
  Calls Tw.prog 108 #[u32 x] w fun e w'=>e = .returned (u32 (W.st4 x))/\w'=w:=by
 have hx:=u32_xor (x >>> 4) (W.st4 (x &&& 15#32))
 rw [<-W.st4_low] at hx
 have hn:((x &&& 15#32).toNat:Int)<16:=by
  have:(x &&& 15#32).toNat<16:=by
   rw [BitVec.toNat_and];exact Nat.lt_of_le_of_lt Nat.and_le_right (by decide)
  omega
 exact fourSteps_plain _ _ _ _ _ w (u32_and x 15#32) (u32_shr x 4) hn (sum_cell h x) hx
set_option maxHeartbeats 1000000 in
theorem sumMore (x:B32) (s:ByteArray) (w:World) (h:SumTab w) (hs:s.size<=1048576) :
  Calls Tw.prog 107 #[u32 x,.string s] w fun e w'=>e = .returned (u32 (W.crc x s.data.toList))/\w'=w:=by
 have HT:Hid (SumTab w):=h
 clear h
 go_enter Tw.func107,Tw.ntmps107
 go_wp2_with fail
 go_loop [0,8] (fun v i=>∃ (k:Nat) (y:B32),v=u32 y/\i = .int .i64 k/\k<=s.size/\y=W.crc x (W.firstK s k)) (fun _ i=>s.size - (intOf i).toNat)
 case atStart=>exact ⟨0,x,rfl,rfl,Nat.zero_le _,by simp [W.firstK,W.crc]⟩
 case round =>
  obtain ⟨k,y,rfl,rfl,hk,hy⟩:=hrel
  have HY:Hid (y=W.crc x (W.firstK s k)):=hy
  clear hy
  by_cases hlt:k<s.size
  ·obtain ⟨b,hb,hbt⟩:=W.firstK_step s k hlt
   have k0:(0:Int)<=(k:Int):=by omega
   have k1:(k:Int)<(s.size:Int):=by omega
   have hix:=index_str s k hlt
   rw [hbt] at hix
   have hbw:IntKind.u32.wrap (b.toNat:Int)=(b.toNat:Int):=by
    have:=b.toNat_lt
    simp [IntKind.wrap,IntKind.bits,IntKind.signed];omega
   obtain ⟨z,hz⟩:∃ z,z=y ^^^ W.by32 b:=⟨_,rfl⟩
   have hxor:=u32_byte y b
   rw [<-hz] at hxor
   have HB:Hid (W.firstK s (k+1)=W.firstK s k++[b]):=hb
   have HZ:Hid (z=y ^^^ W.by32 b):=hz
   clear hb hz hbt
   go_wp2_with fail
   refine (fourSteps z _ HT.out).mono ?_
   rintro e w1 ⟨rfl,rfl⟩
   go_wp2_with fail
   refine (fourSteps _ _ HT.out).mono ?_
   rintro e w2 ⟨rfl,rfl⟩
   go_wp2_with fail
   go_round
   case rel=>exact ⟨k+1,W.st8 z,rfl,by go_num,by omega,by rw [HB.out,W.crc_snoc,HZ.out,HY.out]⟩
   case measure=>simp [intOf];omega
  ·obtain rfl:y=W.crc x s.data.toList:=by rw [HY.out,W.firstK_all s k (by omega)]
   go_wp2_with fail
   go_ret
   exact ⟨rfl,rfl⟩
set_option maxHeartbeats 1000000 in
theorem specMore (x:B32) (s:ByteArray) (w:World) (hs:s.size<=1048576) :
  Calls Tw.prog 83 #[u32 x,.string s] w fun e w'=>e = .returned (u32 (W.crc x s.data.toList))/\w'=w:=by
 go_enter Tw.func83,Tw.ntmps83
 go_wp2_with fail
 go_loop [0,5] (fun v i=>∃ (k:Nat) (y:B32),v=u32 y/\i = .int .i64 k/\k<=s.size/\y=W.crc x (W.firstK s k)) (fun _ i=>s.size - (intOf i).toNat)
 case atStart=>exact ⟨0,x,rfl,rfl,Nat.zero_le _,by simp [W.firstK,W.crc]⟩
 case round =>
  obtain ⟨k,y,rfl,rfl,hk,hy⟩:=hrel
  have HY:Hid (y=W.crc x (W.firstK s k)):=hy
  clear hy
  by_cases hlt:k<s.size
  ·obtain ⟨b,hb,hbt⟩:=W.firstK_step s k hlt
   have k0:(0:Int)<=(k:Int):=by omega
   have k1:(k:Int)<(s.size:Int):=by omega
   have hix:=index_str s k hlt
   rw [hbt] at hix
   have hbw:IntKind.u32.wrap (b.toNat:Int)=(b.toNat:Int):=by
    have:=b.toNat_lt
    simp [IntKind.wrap,IntKind.bits,IntKind.signed];omega
   obtain ⟨z,hz⟩:∃ z,z=y ^^^ W.by32 b:=⟨_,rfl⟩
   have hxor:=u32_byte y b
   rw [<-hz] at hxor
   have HB:Hid (W.firstK s (k+1)=W.firstK s k++[b]):=hb
   have HZ:Hid (z=y ^^^ W.by32 b):=hz
   clear hb hz hbt
   go_wp2_with fail
   go_loop [0,6] (fun v i=>∃ (j:Nat) (y:B32),v=u32 y/\i = .int .i64 j/\j<=8/\y=W.stN j z) (fun _ i=>8 - (intOf i).toNat)
   case atStart=>exact ⟨0,z,rfl,rfl,Nat.zero_le _,rfl⟩
   case round =>
    obtain ⟨j,y1,rfl,rfl,hj,hy1⟩:=hrel
    have HY1:Hid (y1=W.stN j z):=hy1
    clear hy1
    by_cases hj8:j<8
    ·have hhalf:=u32_half y1
     have hodd:=u32_odd y1
     have hpoly:=u32_poly y1
     obtain ⟨z1,hz1⟩:∃ z1,z1=y1 >>> 1:=⟨_,rfl⟩
     rw [<-hz1] at hhalf hpoly
     have j8:(j:Int)<8:=by omega
     have w1:=u32_wrap z1
     by_cases ho:y1.getLsbD 0=true
     ·rw [if_pos ho] at hodd
      have e:W.st y1=z1 ^^^ W.poly:=by unfold W.st;rw [if_pos ho,hz1]
      rw [<-e] at hpoly
      have HE:Hid _:=e
      have HZ1:Hid _:=hz1
      clear e hz1 ho
      go_wp2_with fail
      go_round
      case rel=>exact ⟨j+1,W.st y1,rfl,by go_num,by omega,by rw [HY1.out];rfl⟩
      case measure=>simp [intOf];omega
     ·rw [if_neg ho] at hodd
      have e:W.st y1=z1:=by unfold W.st;rw [if_neg ho,hz1];simp
      have HE:Hid _:=e
      have HZ1:Hid _:=hz1
      clear e hz1 ho hpoly
      go_wp2_with fail
      go_round
      case rel=>exact ⟨j+1,z1,rfl,by go_num,by omega,by rw [<-HE.out,HY1.out];rfl⟩
      case measure=>simp [intOf];omega
    ·obtain rfl:j=8:=by omega
     go_wp2_with fail
     go_round
     case rel=>exact ⟨k+1,y1,rfl,by go_num,by omega,by rw [HB.out,W.crc_snoc,HY1.out,HZ.out,HY.out,W.st8_N]⟩
     case measure=>simp [intOf];omega
  ·obtain rfl:y=W.crc x s.data.toList:=by rw [HY.out,W.firstK_all s k (by omega)]
   go_wp2_with fail
   go_ret
   exact ⟨rfl,rfl⟩
theorem implSumMore (x:B32) (s:ByteArray) (w:World) (h:SumTab w) (hs:s.size<=1048576) :
  Calls Tw.prog 106 #[u32 x,.string s] w fun e w'=>e = .returned (u32 (W.crc x s.data.toList))/\w'=w:=by
 have HT:Hid (SumTab w):=h
 clear h
 have hw:=u32_wrap x
 go_enter Tw.func106,Tw.ntmps106
 go_wp2_with fail
 refine (sumMore x s _ HT.out hs).mono ?_
 rintro e w1 ⟨rfl,rfl⟩
 go_wp2_with fail
 go_ret
 exact ⟨rfl,rfl⟩
def _root_.Go.Proofs.YteaieagkjepgiaaGreatDoorT.W.sumOf (s:ByteArray):B32:=W.crc 4294967295#32 s.data.toList
theorem implSumOf (s:ByteArray) (w:World) (h:SumTab w) (hs:s.size<=1048576) :
  Calls Tw.prog 103 #[.string s] w fun e w'=>e = .returned (u32 (W.sumOf s))/\w'=w:=by
 have HT:Hid (SumTab w):=h
 clear h
 go_enter Tw.func103,Tw.ntmps103
 go_wp2_with fail
 refine (implSumMore 4294967295#32 s _ HT.out hs).mono ?_
 rintro e w1 ⟨rfl,rfl⟩
 go_wp2_with fail
 go_ret
 exact ⟨rfl,rfl⟩
theorem specSumOf (s:ByteArray) (w:World) (hs:s.size<=1048576) :
  Calls Tw.prog 65 #[.string s] w fun e w'=>e = .returned (u32 (W.sumOf s))/\w'=w:=by
 go_enter Tw.func65,Tw.ntmps65
 go_wp2_with fail
 refine (specMore 4294967295#32 s _ hs).mono ?_
 rintro e w1 ⟨rfl,rfl⟩
 go_wp2_with fail
 go_ret
 exact ⟨rfl,rfl⟩
end Go.Proofs.YteaieagkjepgiaaGreatDoorT
/- . -/
namespace Go.Proofs.YteaieagkjepgiaaGreatDoorT
set_option maxRecDepth 100000
open Go.RowKit
structure HM where
 id:Int
 up:Bool
 us:List UnM
instance:Inhabited HM:=⟨⟨0,false,[]⟩⟩
def sumN (t:ByteArray):Int:=((W.sumOf t).toNat:Int)
def unLt (a b:UnM):Bool:=decide (a.group<b.group)||(a.group==b.group&&decide (a.index<b.index))
def unOne (u:UnM):Bool:=inI u.group 1 100000&&inI u.index 0 5&&decide (u.text.size<=200)&&inI u.sum 0 4294967295
def unAt (L:List UnM) (k:Nat):Bool:=unOne (L.getD k default)&&(decide (k=0)||unLt (L.getD (k - 1) default) (L.getD k default))
def unitsOk (L:List UnM):Bool:=(List.range L.length).all (unAt L)
def hostOk (h:HM):Bool:=unitsOk h.us&&inI h.id 1 7
def putL (L:List UnM) (u:UnM):List UnM:=L.filter (unLt · u)++[u]++L.filter (unLt u ·)
def summed (u:UnM):UnM:=⟨u.group,u.index,u.text,sumN u.text⟩
def putX (h:HM) (u:UnM):HM × Bool:=
 if hostOk h&&h.up&&hostOk ⟨h.id,h.up,putL h.us (summed u)⟩ then (⟨h.id,h.up,putL h.us (summed u)⟩,true) else (h,false)
end Go.Proofs.YteaieagkjepgiaaGreatDoorT
/- . -/
namespace Go.Proofs.YteaieagkjepgiaaGreatDoorT
set_option maxRecDepth 100000
open Go.RowKit
def keyP (h:HM):Nat × Int:=(h.us.length,h.id)
def plLe (a b:Nat × Int):Bool:=decide (a.1<b.1)||(a.1==b.1&&decide (a.2<=b.2))
theorem plLe_iff (a b:Nat × Int):plLe a b=true↔a.1<b.1\/(a.1=b.1/\a.2<=b.2):=by
 unfold plLe
 simp
def upPairs (hs:List HM):List (Nat × Int):=(hs.filter fun h=>h.up).map keyP
def ordP (hs:List HM):List (Nat × Int):=(upPairs hs).mergeSort plLe
theorem ordP_up (hs:List HM):(ordP hs).Pairwise fun a b=>plLe a b=true:=
 List.pairwise_mergeSort (fun a b c h k=>by rw [plLe_iff] at *;omega) (fun a b=>by rw [Bool.or_eq_true,plLe_iff,plLe_iff];omega) _
theorem ordP_perm (hs:List HM):(ordP hs).Perm (upPairs hs):=List.mergeSort_perm _ _
theorem ordP_of {hs:List HM} {L:List (Nat × Int)} (hp:L.Perm (upPairs hs)) (hu:L.Pairwise fun a b=>plLe a b=true):L=ordP hs:=
 List.Perm.eq_of_pairwise (le:=fun a b=>plLe a b=true) (fun a b _ _ h k=>by
  rw [plLe_iff] at h k
  exact Prod.ext (by omega) (by omega)) hu (ordP_up hs) (hp.trans (ordP_perm hs).symm)
def plcX (hs:List HM) (n:Int):List Int × Bool:=
 if 0<=n/\n<=((ordP hs).length:Int) then (((ordP hs).take n.toNat).map Prod.snd,true) else ([],false)
end Go.Proofs.YteaieagkjepgiaaGreatDoorT
/- . -/
namespace Go.Proofs.YteaieagkjepgiaaGreatDoorT
set_option maxRecDepth 100000
open Go.RowKit
attribute [local go_sem ↓] Go.wp_at_zero Go.wp_at_succ
def IAns (w:World) (v:Value) (xs:List Int) (lo hi:Nat):Prop:=∃ (a:Option Addr) (cap:Nat),v = .slice a xs.length cap/\xs.length<=cap/\(xs=[]\/∃ g,a=some ⟨g,0,none⟩/\lo<=g/\g<hi/\WCells w g (ics xs))
theorem IAns.crow {w:World} {v:Value} {xs:List Int} {lo hi:Nat} (h:IAns w v xs lo hi):∃ a cap,v = .slice a xs.length cap/\CRow w a (ics xs):=by
 obtain ⟨a,cap,e,_,q⟩:=h
 refine ⟨a,cap,e,?_⟩
 rcases q with rfl | ⟨g,rfl,_,_,q⟩
 ·intro h;simp [ics] at h
 ·exact q.crow
theorem IAns.turned {w w':World} {v:Value} {xs:List Int} {lo hi lo' hi':Nat} (h:IAns w v xs lo hi) (t:Turned w w' lo' hi') (hd:hi<=lo'\/hi'<=lo):IAns w' v xs lo hi:=by
 obtain ⟨a,cap,e,hc,q⟩:=h
 refine ⟨a,cap,e,hc,?_⟩
 rcases q with rfl | ⟨g,rfl,h1,h2,h3⟩
 ·exact .inl rfl
 ·exact .inr ⟨g,rfl,h1,h2,h3.turned t (by omega)⟩
theorem IAns.below {w w':World} {v:Value} {xs:List Int} {lo hi:Nat} (h:IAns w v xs lo hi) (hb:Below w.heap.size w w'):IAns w' v xs lo hi:=by
 obtain ⟨a,cap,e,hc,q⟩:=h
 refine ⟨a,cap,e,hc,?_⟩
 rcases q with rfl | ⟨g,rfl,h1,h2,h3⟩
 ·exact .inl rfl
 ·exact .inr ⟨g,rfl,h1,h2,h3.below hb h3.1⟩
end Go.Proofs.YteaieagkjepgiaaGreatDoorT
/- . -/
namespace Go.Proofs.YteaieagkjepgiaaGreatDoorT
set_option maxRecDepth 100000
open Go.RowKit
end Go.Proofs.YteaieagkjepgiaaGreatDoorT
/- . -/
namespace Go.Proofs.YteaieagkjepgiaaGreatDoorT.W
def dgF:Nat->Nat->List UInt8
 | 0,_=>[]
 | f+1,n=>if n=0 then [] else dgF f (n / 10)++[UInt8.ofNat (48+n % 10)]
def dg (n:Nat):List UInt8:=dgF n n
theorem dgF_enough:∀ (f g n:Nat),n<=f->n<=g->dgF f n=dgF g n
 | 0,0,_,_,_=>rfl
 | 0,g+1,n,h,_=>by have:n=0:=(by omega);subst this;simp [dgF]
 | f+1,0,n,_,h=>by have:n=0:=(by omega);subst this;simp [dgF]
 | f+1,g+1,n,h1,h2=>by
  unfold dgF
  by_cases h:n=0
  ·rw [if_pos h,if_pos h]
  ·rw [if_neg h,if_neg h,dgF_enough f g (n / 10) (by omega) (by omega)]
theorem dg_zero:dg 0=[]:=rfl
theorem dg_step (n:Nat) (h:0<n):dg n=dg (n / 10)++[UInt8.ofNat (48+n % 10)]:=by
 unfold dg
 match n,h with
 | k+1,_=>rw [dgF,if_neg (by omega),dgF_enough k ((k+1) / 10) ((k+1) / 10) (by omega) (by omega)]
def decS (n:Nat):List UInt8:=if n=0 then [48] else dg n
theorem dg_len:∀ (k n:Nat),n<10 ^ k->(dg n).length<=k
 | 0,n,h=>by have:n=0:=(by simpa using h);subst this;simp [dg_zero]
 | k+1,n,h=>by
  by_cases hn:n=0
  ·subst hn;simp [dg_zero]
  ·rw [dg_step n (by omega)]
   have:=dg_len k (n / 10) (by rw [Nat.pow_succ] at h;omega)
   simp;omega
end Go.Proofs.YteaieagkjepgiaaGreatDoorT.W
/- . -/
namespace Go.Proofs.YteaieagkjepgiaaGreatDoorT
set_option maxRecDepth 100000
open Go.RowKit
open Go.PlainAid (bt)
def oneB (c:Int):ByteArray:=⟨#[UInt8.ofNat c.toNat]⟩
theorem oneB_size (c:Int):(oneB c).size=1:=rfl
theorem one_byte (W:World) (c:Int) (h0:0<=c) (h1:c<256) :
  (convert 63 9 (.slice (some ⟨W.heap.size,0,none⟩) 1 1)).run Tw.prog (W.alloc (.cells #[.int .u8 c] 5)) =
   .ok (.string (oneB c)) (W.alloc (.cells #[.int .u8 c] 5)):=by
 have:=run_convert_bytes_back (P:=Tw.prog) (W.alloc (.cells #[.int .u8 c] 5)) 63 9 5 ⟨W.heap.size,0,none⟩ 1 [UInt8.ofNat c.toNat] Tw.underlying63 Tw.underlying5 Tw.underlying9
  (fun j hj=>by
   have:j=0:=by simp at hj;omega
   subst this
   have e:=byte_of c h0 h1
   rw [e]
   exact cell_one_new W _ _ 0 _ rfl)
 simpa [oneB] using this
theorem dg_more {n m:Nat} {s:ByteArray} (hm:0<m) (h:W.dg m++s.data.toList=W.dg n) (c:Int) (hc:c=48+((m % 10:Nat):Int)) :
  W.dg (m / 10)++(oneB c++s).data.toList=W.dg n:=by
 rw [<-h,W.dg_step m hm]
 have e:UInt8.ofNat c.toNat=UInt8.ofNat (48+m % 10):=by rw [hc];congr 1
 unfold oneB
 rw [e]
 simp
end Go.Proofs.YteaieagkjepgiaaGreatDoorT
/- . -/
namespace Go.Proofs.YteaieagkjepgiaaGreatDoorT
set_option maxRecDepth 100000
open Go.RowKit
attribute [local go_sem ↓] Go.wp_at_zero Go.wp_at_succ
def mt (k:Nat):ByteArray:=(⟨#[109]⟩:ByteArray)++⟨(W.decS k).toArray⟩
set_option maxHeartbeats 400000 in
theorem markText_any (n:Nat) (w:World) (hn:0<n) (hm:n<=1000000000) :
  Calls Tw.prog 57 #[.int .i64 n] w fun e w'=>e = .returned (.string (mt n))/\Below w.heap.size w w':=by
 have h0:decide ((n:Int)<=0)=false:=by simp;omega
 have hl:=W.dg_len 20 n (by omega)
 go_enter Tw.func57,Tw.ntmps57
 go_wp2_with fail
 go_loopw [0,3] (fun i v wr=>∃ (m:Nat) (s:ByteArray),i = .int .i64 m/\v = .string s/\m<=n/\W.dg m++s.data.toList=W.dg n/\Below w.heap.size w wr) (fun i _ _=>(intOf i).toNat)
 case atStart=>exact ⟨n,⟨#[]⟩,rfl,rfl,Nat.le_refl _,by simp,Below.refl _ _⟩
 case round =>
  obtain ⟨m,s,rfl,rfl,hmn,hs,hb⟩:=hrel
  have HS:Hid (W.dg m++s.data.toList=W.dg n):=hs
  have hsz:s.size<=20:=by have:=congrArg List.length hs;simp at this;have e:s.data.size=s.size:=rfl;omega
  clear hs
  by_cases hz:m=0
  ·subst hz
   have hst:mt n=(⟨#[109]⟩:ByteArray)++s:=by
    have:=HS.out
    rw [W.dg_zero,List.nil_append] at this
    unfold mt W.decS
    rw [if_neg (by omega),<-this]
   have HT:Hid _:=hst
   clear hst
   go_wp2_with fail
   go_ret
   refine ⟨?_,hb⟩
   rw [HT.out]
   rfl
  ·have hp:0<m:=by omega
   have hB:=hb.size
   have ho:=oneB_size (48+(m:Int) % 10)
   have hcv:=one_byte wr (48+(m:Int) % 10) (by omega) (by omega)
   go_wp2_with fail
   go_roundw
   case rel=>exact ⟨m / 10,_,by go_num,rfl,by omega,dg_more hp HS.out _ (by omega),hb.alloc hB _⟩
   case measure=>simp [intOf];omega
def marks (k n:Nat):List ByteArray:=(List.range n).map fun j=>mt (k+j)
def WRow (w:World) (g:Nat) (xs:List ByteArray):Prop:=
 g<w.heap.size/\∀ j,j<xs.length->w.cell? ⟨g,j,none⟩=some (.string (xs.getD j ⟨#[]⟩))/\w.frozen? ⟨g,j,none⟩=false
theorem WRow.below {w w':World} {g B:Nat} {xs:List ByteArray} (h:WRow w g xs) (hb:Below B w w') (hg:g<B):WRow w' g xs:=
 ⟨Nat.lt_of_lt_of_le h.1 hb.size,fun j hj=>⟨(hb.cell (p:=⟨g,j,none⟩) hg).trans (h.2 j hj).1,(hb.frozen (p:=⟨g,j,none⟩) hg).trans (h.2 j hj).2⟩⟩
theorem WRow.set {w:World} {g:Nat} {xs:List ByteArray} (h:WRow w g xs) (i:Nat) (x:ByteArray) (hi:i<xs.length):WRow (w.setCell ⟨g,i,none⟩ (.string x)) g (xs.set i x):=by
 refine ⟨by have:=h.1;simpa [World.setCell] using this,fun j hj=>?_⟩
 rw [List.length_set] at hj
 refine ⟨?_,(World.frozen?_setCell _ _ _ _).trans (h.2 j hj).2⟩
 by_cases e:j=i
 ·subst e
  rw [World.cell?_setCell_same _ _ _ (h.2 j hj).1]
  simp [List.getD,hi]
 ·rw [World.cell?_setCell_other _ _ _ _ (by first | (simp;done) | (simp;omega)),(h.2 j hj).1]
  simp [List.getD,Ne.symm e]
theorem grownBy_setCell (w:World) (g i:Nat) (v:Value):w.grownBy (w.setCell ⟨g,i,none⟩ v) (some g):=
 ⟨rfl,rfl,rfl,by simp [World.setCell],fun k _ hk=>Below.heap_setCell _ _ _ _ (fun e=>hk (by rw [e]))⟩
theorem grownBy_below {w w':World} {g:Nat} (h:Below w.heap.size w w'):w.grownBy w' (some g):=⟨h.os,h.tape,h.output,h.size,fun k hk _=>h.block k hk⟩
theorem grownBy_two {a b c:World} {g:Nat} (h:a.grownBy b (some g)) (k:b.grownBy c (some g)):a.grownBy c (some g):=
 ⟨k.os.trans h.os,k.tape.trans h.tape,k.output.trans h.output,Nat.le_trans h.size k.size,fun i hi hn=>(k.block i (Nat.lt_of_lt_of_le hi h.size) hn).trans (h.block i hi hn)⟩
end Go.Proofs.YteaieagkjepgiaaGreatDoorT
/- . -/
namespace Go.Proofs.YteaieagkjepgiaaGreatDoorT
set_option maxRecDepth 100000
open Go.RowKit
def tv (l:List ByteArray):List Value:=l.map Value.string
theorem tv_snoc (l:List ByteArray) (x:ByteArray):tv l++[.string x]=tv (l++[x]):=by simp [tv]
theorem tv_len (l:List ByteArray):(tv l).length=l.length:=by simp [tv]
def RowAt (w:World) (B:Nat) (a:Option Addr) (xs:List ByteArray) (cap:Nat):Prop:=xs.length<=cap/\(xs=[]\/∃ g,a=some ⟨g,0,none⟩/\B<=g/\WRow w g xs)
theorem own_rowAt {w:World} {B:Nat} {v:Value} {xs:List ByteArray} (h:w.ownsRow B 9 1 v xs.length (tv xs)):∃ a cap,v = .slice a xs.length cap/\RowAt w B a xs cap:=by
 have hc:∀ g,v.ownBlock=some g->∀ j u,(tv xs)[j]?=some u->w.cell? ((⟨g,0,none⟩:Addr).add j)=some u:=fun g hg=>h.cells hg
 have hlt:=h.lt
 obtain ⟨_,⟨rfl,h0⟩ | ⟨g,cap,cur,rfl,hB,hcur,hn,_,hsz,_⟩⟩:=h
 ·have:xs=[]:=List.eq_nil_of_length_eq_zero h0
  subst this
  exact ⟨none,0,rfl,by simp,.inl rfl⟩
 ·refine ⟨_,cap,rfl,hn,.inr ⟨g,rfl,hB,(hlt g rfl).2,fun j hj=>⟨?_,?_⟩⟩⟩
  ·have:=hc g rfl j _ (show (tv xs)[j]?=some _ by simp [tv,hj];rfl)
   have e:(⟨g,0,none⟩:Addr).add j=⟨g,j,none⟩:=by
    cases j <;> simp [Addr.add]
   rw [e] at this
   simpa [List.getD,hj] using this
  ·unfold World.frozen?
   rw [hcur];simp
end Go.Proofs.YteaieagkjepgiaaGreatDoorT
/- . -/
namespace Go.Proofs.YteaieagkjepgiaaGreatDoorT
set_option maxRecDepth 100000
open Go.RowKit
attribute [local go_sem ↓] Go.wp_at_zero Go.wp_at_succ
theorem tv_get (L:List ByteArray) (j:Nat) (h:j<L.length):(tv L)[j]?=some (.string (L.getD j ⟨#[]⟩)):=by simp [tv,List.getD,h]
theorem tv_set (L:List ByteArray) (j:Nat) (x:ByteArray):(tv L).set j (.string x)=tv (L.set j x):=by simp [tv,List.map_set]
theorem wrow_cells {w:World} {g:Nat} {L:List ByteArray}:WRow w g L↔WCells w g (tv L):=by
 constructor
 ·intro h
  refine ⟨h.1,fun i v hv=>?_⟩
  have hi:i<L.length:=by have:=(List.getElem?_eq_some_iff.1 hv).1;rw [tv_len] at this;exact this
  rw [tv_get L i hi] at hv
  cases hv
  exact h.2 i hi
 ·intro h
  exact ⟨h.1,fun j hj=>h.2 j _ (tv_get L j hj)⟩
def tsum:List ByteArray->Nat
 | []=>0
 | x::L=>x.size+tsum L
theorem tsum_mem {L:List ByteArray} {x:ByteArray} (h:x ∈ L):x.size<=tsum L:=by
 induction L with
 | nil=>simp at h
 | cons t L ih =>
  rcases List.mem_cons.1 h with rfl | h
  ·simp only [tsum];omega
  ·have:=ih h;simp only [tsum];omega
def TFit (L:List ByteArray):Prop:=L.length+tsum L<=1048576
def UFit (L:List ByteArray):Prop:=L.length<=1048576/\∀ x ∈ L,x.size<=1048576
theorem TFit.u {L:List ByteArray} (h:TFit L):UFit L:=⟨by unfold TFit at h;omega,fun x hx=>by have:=tsum_mem hx;unfold TFit at h;omega⟩
def SSee (w:World) (v:Value) (L:List ByteArray) (lo hi:Nat):Prop:=∃ (a:Option Addr) (cap:Nat),v = .slice a L.length cap/\RRow w a (tv L) lo hi
def SAns (w:World) (v:Value) (L:List ByteArray) (lo hi:Nat):Prop:=∃ (a:Option Addr) (cap:Nat),v = .slice a L.length cap/\L.length<=cap/\(L=[]\/∃ g,a=some ⟨g,0,none⟩/\lo<=g/\g<hi/\WCells w g (tv L))
theorem SAns.see {w:World} {v:Value} {L:List ByteArray} {lo hi:Nat} (h:SAns w v L lo hi):SSee w v L lo hi:=by
 obtain ⟨a,cap,e,_,h1⟩:=h
 refine ⟨a,cap,e,?_⟩
 rcases h1 with rfl | ⟨g,rfl,q1,q2,hm⟩
 ·intro h;simp [tv] at h
 ·exact RRow.of_wcells hm q1 q2
theorem SSee.turned {w w':World} {v:Value} {L:List ByteArray} {lo hi lo' hi':Nat} (h:SSee w v L lo hi) (t:Turned w w' lo' hi') (hd:hi<=lo'\/hi'<=lo):SSee w' v L lo hi:=by
 obtain ⟨a,cap,e,h1⟩:=h
 exact ⟨a,cap,e,h1.turned t hd⟩
theorem SSee.below {w w':World} {v:Value} {L:List ByteArray} {lo hi:Nat} (h:SSee w v L lo hi) (hb:Below w.heap.size w w'):SSee w' v L lo hi:=by
 obtain ⟨a,cap,e,h1⟩:=h
 exact ⟨a,cap,e,h1.below hb⟩
theorem SAns.turned {w w':World} {v:Value} {L:List ByteArray} {lo hi lo' hi':Nat} (h:SAns w v L lo hi) (t:Turned w w' lo' hi') (hd:hi<=lo'\/hi'<=lo):SAns w' v L lo hi:=by
 obtain ⟨a,cap,e,hc,h1⟩:=h
 refine ⟨a,cap,e,hc,?_⟩
 rcases h1 with rfl | ⟨g,rfl,q1,q2,hm⟩
 ·exact .inl rfl
 ·exact .inr ⟨g,rfl,q1,q2,hm.turned t (by omega)⟩
theorem SAns.below {w w':World} {v:Value} {L:List ByteArray} {lo hi:Nat} (h:SAns w v L lo hi) (hb:Below w.heap.size w w'):SAns w' v L lo hi:=by
 obtain ⟨a,cap,e,hc,h1⟩:=h
 refine ⟨a,cap,e,hc,?_⟩
 rcases h1 with rfl | ⟨g,rfl,q1,q2,hm⟩
 ·exact .inl rfl
 ·exact .inr ⟨g,rfl,q1,q2,hm.grow hb⟩
theorem SAns.empty (w:World) (a:Option Addr) (cap lo hi:Nat):SAns w (.slice a 0 cap) [] lo hi:=⟨a,cap,rfl,Nat.zero_le _,.inl rfl⟩
def SPost (L:List ByteArray) (w:World) (e:Ending) (w':World):Prop:=∃ v,e = .returned v/\SAns w' v L w.heap.size w'.heap.size/\Below w.heap.size w w'
theorem own_sans {w w':World} {v:Value} {L:List ByteArray} {n:Nat} (hn:L.length=n) (h:w'.ownsRow w.heap.size 9 1 v n (tv L)):SAns w' v L w.heap.size w'.heap.size:=by
 have h':=h
 rw [<-hn] at h'
 obtain ⟨a,cap,rfl,hc,h1⟩:=own_rowAt h'
 refine ⟨a,cap,rfl,hc,?_⟩
 rcases h1 with rfl | ⟨g,rfl,q1,hm⟩
 ·exact .inl rfl
 ·exact .inr ⟨g,rfl,q1,hm.1,wrow_cells.1 hm⟩
theorem infoTextG:(Tw.prog.info? 9).map (fun i=>(i.zero,i.size,i.bytes))=some (some (.string ⟨#[]⟩),1,16):=by kernel_rfl
end Go.Proofs.YteaieagkjepgiaaGreatDoorT
/- . -/
namespace Go.Proofs.YteaieagkjepgiaaGreatDoorT
set_option maxRecDepth 100000
open Go.RowKit
attribute [local go_sem ↓] Go.wp_at_zero Go.wp_at_succ
def unitB (k:Nat) (t:ByteArray) (n u:Nat):ByteArray:=⟨(((List.range n).filter fun j=>decide (unitAt k j=u)).map fun j=>t.data.toList.getD j 0).toArray⟩
def cutL (k:Nat) (t:ByteArray) (n:Nat):List ByteArray:=(List.range k).map (unitB k t n)
def cutX (s:Int) (t:ByteArray):List ByteArray × Bool:=if schOk s=true/\t.size<=groupN s then (cutL (schK s) t t.size,true) else ([],false)
theorem cutL_len (k:Nat) (t:ByteArray) (n:Nat):(cutL k t n).length=k:=by simp [cutL]
theorem cutL_at {k:Nat} {t:ByteArray} {n u:Nat} (h:u<k):(cutL k t n).getD u ⟨#[]⟩=unitB k t n u:=by
 unfold cutL
 rw [List.getD_eq_getElem?_getD,List.getElem?_map,List.getElem?_range h];rfl
theorem unit_lt {k:Nat} (h:0<k) (i:Nat):unitAt k i<k:=Nat.mod_lt _ h
def byteB (c:UInt8):ByteArray:=⟨#[c]⟩
theorem unitB_same {k:Nat} {t:ByteArray} {i u:Nat} (h:unitAt k i=u):unitB k t (i+1) u=⟨(unitB k t i u).data++(byteB (t.data.toList.getD i 0)).data⟩:=by
 unfold unitB byteB
 rw [List.range_succ,List.filter_append]
 simp [h]
theorem unitB_other {k:Nat} {t:ByteArray} {i u:Nat} (h:unitAt k i ≠ u):unitB k t (i+1) u=unitB k t i u:=by
 unfold unitB
 rw [List.range_succ,List.filter_append]
 simp [h]
theorem cutL_step {k:Nat} (hk:0<k) (t:ByteArray) (i:Nat):(cutL k t i).set (unitAt k i) ⟨((cutL k t i).getD (unitAt k i) ⟨#[]⟩).data++(byteB (t.data.toList.getD i 0)).data⟩=cutL k t (i+1):=by
 rw [cutL_at (unit_lt hk i),<-unitB_same rfl]
 apply List.ext_getElem (by simp [cutL])
 intro u h1 h2
 rw [List.getElem_set]
 have hu:u<k:=by simpa [cutL] using h2
 simp only [cutL,List.getElem_map,List.getElem_range]
 by_cases e:unitAt k i=u
 ·rw [if_pos e,e]
 ·rw [if_neg e,unitB_other e]
theorem cutL_0 (k:Nat) (t:ByteArray):cutL k t 0=List.replicate k ⟨#[]⟩:=by
 apply List.ext_getElem (by simp [cutL])
 intro u h1 h2
 simp [cutL,unitB]
theorem byte_is {t:ByteArray} {i:Nat} (h:i<t.size):t.extract i (i+1)=byteB (t.data.toList.getD i 0):=by
 apply ByteArray.ext
 have h':i<t.data.size:=h
 simp only [byteB,ByteArray.data_extract]
 apply Array.ext
 ·simp;omega
 ·intro j h1 h2
  have hj:j=0:=by simp at h2;omega
  subst hj
  simp
  rw [Array.getElem?_eq_getElem h',Option.getD_some]
theorem byte_size {t:ByteArray} {i:Nat} (h:i<t.size):(t.extract i (i+1)).size=1:=by rw [byte_is h];rfl
theorem byte_cat {x:ByteArray} {t:ByteArray} {i:Nat} (h:i<t.size):x++t.extract i (i+1)=⟨x.data++(byteB (t.data.toList.getD i 0)).data⟩:=by
 rw [byte_is h]
 apply ByteArray.ext
 simp
theorem unitB_size (k:Nat) (t:ByteArray) (n u:Nat):(unitB k t n u).size<=n:=by
 have h:=List.length_filter_le (fun j=>decide (unitAt k j=u)) (List.range n)
 simp only [List.length_range] at h
 show (List.map _ _).toArray.size<=n
 rw [List.size_toArray,List.length_map]
 exact h
theorem WCells.drawn {w:World} {g:Nat} {L:List Value} (h:WCells w g L):WCells w.drew g L:=h.below (Below.drew (Below.refl w.heap.size w)) h.1
def TPost8 (R:List ByteArray × Bool) (w:World) (e:Ending) (w':World):Prop:=∃ v,e = .returned (.tuple #[v,.bool R.2])/\SAns w' v R.1 w.heap.size w'.heap.size/\Below w.heap.size w w'
set_option maxRecDepth 100000 in
set_option maxHeartbeats 2000000 in
theorem specCutUnits (s:Int) (t:ByteArray) (w:World) (hts:t.size<=9223372036854775807):Calls Tw.prog 12 #[.int .i64 s,.string t] w fun e w'=>TPost8 (cutX s t) w e w':=by
 obtain ⟨i0,hi0,hz0,hz1,hz2⟩:=info_parts infoTextG
 have HS:=Shut.mk (fun W=>specSchema s W)
 unfold SchPost at HS
 have HG:=Shut.mk (fun W=>specGroupSize s W)
 have hg32:=groupN_bounds s
 cases h:schOk s with
 | false =>
  have e0:cutX s t=([],false):=by unfold cutX;rw [if_neg (fun q=>by rw [h] at q;cases q.1)]
  unfold TPost8
  rw [e0]
  rw [h] at HS
  clear h e0 hg32
  generalize schK s=k at *
  generalize schM s=m at *
  go_enter Tw.func12,Tw.ntmps12
  go_wp2_with fail
  refine (HS.out _).mono ?_
  rintro e w1 ⟨rfl,rfl⟩
  go_wp2_with fail
  go_ret2
  exact ⟨_,rfl,SAns.empty _ _ _ _ _,(Below.refl _ _).alloc (Nat.le_refl _) _⟩
 | true =>
  rw [h] at HS
  obtain ⟨b1,b2,_,_⟩:=sch_bounds h
  by_cases hz:t.size<=groupN s
  ·have e0:cutX s t=(cutL (schK s) t t.size,true):=by unfold cutX;rw [if_pos ⟨h,hz⟩]
   have HPL:=Shut.mk (fun (i:Nat) (hi:i<t.size) W=>specPlaceOf s (i:Int) W)
   have hpx:∀ i:Nat,i<t.size->placeX s (i:Int)=(i / (schK s*8),unitAt (schK s) i,placeIn (schK s) i):=fun i hi=>by
    unfold placeX;rw [if_pos ⟨h,by omega,by omega⟩];rfl
   have HPX:=Shut.mk hpx
   unfold TPost8
   rw [e0]
   have hz':¬ (groupN s:Int)<(t.size:Int):=by omega
   clear h e0 hpx
   generalize schM s=m at *
   obtain ⟨k,hk⟩:∃ k,k=schK s:=⟨_,rfl⟩
   rw [<-hk] at HS HPX b1 b2 ⊢
   generalize groupN s=S at *
   clear hk
   go_enter Tw.func12,Tw.ntmps12
   go_wp2_with fail
   refine (HS.out _).mono ?_
   rintro e w1 ⟨rfl,rfl⟩
   go_wp2_with fail
   refine (HG.out _).mono ?_
   rintro e w2 ⟨rfl,rfl⟩
   go_wp2_with (at_make;refine wpList_make_full _ rfl _ _ 35 rfl w2.heap.size 9 i0 _ 1 Tw.underlying35 hi0 hz0 hz1 .i64 .i64 _ _ k rfl rfl (by omega) (by omega) ?b2 ?b3 ?b4 ?_)
   case b2=>rw [hz2];omega
   case b3=>unfold maxLen;omega
   case b4=>omega
   intro wm hownm hgrm
   have hbm:Below w2.heap.size w2 wm:=(Below.refl _ _).grown hgrm (Nat.le_refl _) (fun j hj=>by simp at hj)
   have hrow:WCells wm w2.heap.size (tv (cutL k t 0)):=by
    have h:=own_wcells hownm
    have e:(madeCells #[Value.string ⟨#[]⟩] k).toList=tv (cutL k t 0):=by rw [toList_madeCells_one,cutL_0];simp [tv]
    rw [e] at h
    exact h
   have HROW:=Shut.mk hrow
   have HBM:=Shut.mk hbm
   clear hownm hgrm hrow hbm
   go_wp2_with fail
   go_loopw [10] (fun ii wr=>∃ i:Nat,ii = .int .i64 (i:Nat)/\i<=t.size/\Shut (WCells wr w2.heap.size (tv (cutL k t i)))/\Shut (Below w2.heap.size w2 wr)) (fun ii _=>t.size - (intOf ii).toNat)
   case atStart=>exact ⟨0,rfl,Nat.zero_le _,HROW,HBM⟩
   case round =>
    clear HROW HBM
    obtain ⟨i,rfl,hin,hrow,hbo⟩:=hrel
    obtain ⟨wo,rfl⟩:∃ wo,wo=wr:=⟨_,rfl⟩
    by_cases hlt:i<t.size
    ·have hlt':(i:Int)<(t.size:Int):=by omega
     have i0':(0:Int)<=(i:Int):=by omega
     have HP1:=Shut.mk (HPL.out i hlt)
     unfold PlacePost at HP1
     rw [HPX.out i hlt] at HP1
     have hul:=unit_lt (show 0<k by omega) i
     have hst:(cutL k t i).set (unitAt k i) ((cutL k t i).getD (unitAt k i) ⟨#[]⟩++t.extract i (i+1))=cutL k t (i+1):=by rw [byte_cat hlt];exact cutL_step (by omega) t i
     have HCL:=Shut.mk (fun (w5:World) (hw5:WCells w5 w2.heap.size (tv (cutL k t i)))=>hw5.2 (unitAt k i) _ (tv_get _ (unitAt k i) (by rw [cutL_len];exact hul)))
     have HST:=Shut.mk (fun (w5:World) (hw5:WCells w5 w2.heap.size (tv (cutL k t i)))=>by
      have q:=hw5.set (unitAt k i) (.string ((cutL k t i).getD (unitAt k i) ⟨#[]⟩++t.extract i (i+1))) (by rw [tv_len,cutL_len];exact hul)
      rw [tv_set,hst] at q
      exact q)
     have hxs:((cutL k t i).getD (unitAt k i) ⟨#[]⟩).size<=32:=by rw [cutL_at hul];exact Nat.le_trans (unitB_size k t i _) (by omega)
     have hys:=byte_size hlt
     clear hst
     generalize (cutL k t i).getD (unitAt k i) ⟨#[]⟩=x at *
     generalize unitAt k i=u at *
     generalize placeIn k i=pl at *
     generalize i / (k*8)=gq at *
     go_wp2_with fail
     refine (HP1.out _).mono ?_
     rintro e w5 ⟨rfl,hb5⟩
     have hrow5:=hrow.out.below hb5 hrow.out.1
     obtain ⟨c0,z0⟩:=HCL.out w5 hrow5
     have HS5:=Shut.mk (HST.out w5 hrow5)
     have HB5:=Shut.mk (hbo.out.trans (hb5.mono hbo.out.size))
     have u0:(0:Int)<=(u:Int):=by omega
     have u1:(u:Int)<(k:Int):=by omega
     clear hb5 hrow5 hrow hbo HCL HST HP1
     go_wp2_with fail
     go_region
     all_goals go_wp2_with fail
     all_goals exact ⟨⟨i+1,by go_num,by omega,⟨HS5.out.drawn⟩,⟨Below.drew (HB5.out.setCell (p:=⟨w2.heap.size,u,none⟩) (Nat.le_refl _) _)⟩⟩,by simp [intOf];omega⟩
    ·have e:i=t.size:=by omega
     subst e
     have hlt':¬ (t.size:Int)<(t.size:Int):=by omega
     have HF:Shut (SAns wo (.slice (some ⟨w2.heap.size,0,none⟩) k k) (cutL k t t.size) w2.heap.size wo.heap.size):=⟨⟨_,k,by rw [cutL_len],by rw [cutL_len];exact Nat.le_refl _,.inr ⟨_,rfl,Nat.le_refl _,hrow.out.1,hrow.out⟩⟩⟩
     clear hrow
     go_wp2_with fail
     go_ret2
     exact ⟨_,rfl,HF.out,hbo.out⟩
  ·have e0:cutX s t=([],false):=by unfold cutX;rw [if_neg (fun q=>hz q.2)]
   unfold TPost8
   rw [e0]
   have hz':(groupN s:Int)<(t.size:Int):=by omega
   clear h e0 hz
   generalize schK s=k at *
   generalize schM s=m at *
   generalize groupN s=S at *
   go_enter Tw.func12,Tw.ntmps12
   go_wp2_with fail
   refine (HS.out _).mono ?_
   rintro e w1 ⟨rfl,rfl⟩
   go_wp2_with fail
   refine (HG.out _).mono ?_
   rintro e w2 ⟨rfl,rfl⟩
   go_wp2_with fail
   go_ret2
   exact ⟨_,rfl,SAns.empty _ _ _ _ _,(Below.refl _ _).alloc (Nat.le_refl _) _⟩
end Go.Proofs.YteaieagkjepgiaaGreatDoorT
/- . -/
namespace Go.Proofs.YteaieagkjepgiaaGreatDoorT
set_option maxRecDepth 100000
open Go.RowKit
attribute [local go_sem ↓] Go.wp_at_zero Go.wp_at_succ
theorem infoRow:(Tw.prog.info? 39).map (fun i=>(i.zero,i.size,i.bytes))=some (some (.slice none 0 0),1,24):=by kernel_rfl
structure TI (w wr:World) (ss:List SR) (ts:List SR):Prop where
 rweq:rws ts=rws (ss.take ts.length)
 out:WCells wr w.heap.size (svs ts++List.replicate (ss.length - ts.length) (.slice none 0 0))
 rows:∀ s ∈ ts,∃ b,s.loc=some ⟨b,0,none⟩/\w.heap.size<=b/\b<wr.heap.size/\b ≠ w.heap.size/\WCells wr b (ics s.row)/\s.row.length<=s.cap
 apart:(ts.map SR.loc).Nodup
 bel:Below w.heap.size w wr
theorem set_mid (A B:List Value) (x y:Value) (k:Nat) (h:A.length=k):(A++x::B).set k y=A++y::B:=by
 subst h
 rw [List.set_append_right _ _ (Nat.le_refl _)]
 simp
theorem TI.next {w wr w1:World} {ss ts:List SR} {g1:Nat} {row:List Int} {n:Nat} (h:TI w wr ss ts) (hk:ts.length<ss.length) (hrow:(ss[ts.length]).row=row) (hn:n=row.length) (hw:w.heap.size<wr.heap.size)
  (hg1:wr.heap.size<=g1) (hc:WCells w1 g1 (ics row)) (hb:Below wr.heap.size wr w1):TI w (w1.setCell ⟨w.heap.size,ts.length,none⟩ (.slice (some ⟨g1,0,none⟩) n n)) ss (ts++[SR.mk (some ⟨g1,0,none⟩) row row.length]):=by
 subst hn
 have hne:g1 ≠ w.heap.size:=by omega
 have hsz:(w1.setCell ⟨w.heap.size,ts.length,none⟩ (.slice (some ⟨g1,0,none⟩) row.length row.length)).heap.size=w1.heap.size:=by simp [World.setCell]
 have hgs:w1.grownBy (w1.setCell ⟨w.heap.size,ts.length,none⟩ (.slice (some ⟨g1,0,none⟩) row.length row.length)) (some w.heap.size):=gb_set' _ _ _ _
 refine ⟨?_,?_,?_,?_,?_⟩
 ·rw [rws_snoc,h.rweq,List.length_append,List.length_singleton,List.take_succ_eq_append_getElem hk,rws_snoc,hrow]
 ·have o:=(h.out.below hb h.out.1).set ts.length (.slice (some ⟨g1,0,none⟩) row.length row.length) (by rw [List.length_append,svs_len,List.length_replicate];omega)
  obtain ⟨m,hm⟩:∃ m,ss.length - ts.length=m+1:=⟨ss.length - ts.length - 1,by omega⟩
  rw [hm,List.replicate_succ,set_mid _ _ _ _ _ (svs_len ts)] at o
  have e:svs (ts++[SR.mk (some ⟨g1,0,none⟩) row row.length])++List.replicate (ss.length - (ts++[SR.mk (some ⟨g1,0,none⟩) row row.length]).length) (.slice none 0 0)=svs ts++.slice (some ⟨g1,0,none⟩) row.length row.length::List.replicate m (.slice none 0 0):=by
   rw [List.length_append,List.length_singleton,show ss.length - (ts.length+1)=m by omega]
   simp [svs,srv]
  rw [e]
  exact o
 ·intro s hs
  rcases List.mem_append.1 hs with h1 | h1
  ·obtain ⟨b,e,q1,q2,q3,q4,q5⟩:=h.rows s h1
   exact ⟨b,e,q1,by rw [hsz];exact Nat.lt_of_lt_of_le q2 hb.size,q3,(q4.below hb q4.1).apart hgs q3,q5⟩
  ·simp at h1
   subst h1
   exact ⟨g1,rfl,by omega,by rw [hsz];exact hc.1,hne,hc.apart hgs hne,Nat.le_refl _⟩
 ·rw [List.map_append,List.nodup_append]
  refine ⟨h.apart,by simp,fun l hl l' hl'=>?_⟩
  obtain ⟨s,hs,rfl⟩:=List.mem_map.1 hl
  simp only [List.map_cons,List.map_nil,List.mem_singleton] at hl'
  subst hl'
  obtain ⟨b,e,_,q2,_⟩:=h.rows s hs
  rw [e]
  intro e2
  have e4:b=g1:=congrArg Addr.block (Option.some.inj e2)
  omega
 ·exact (h.bel.trans (hb.mono h.bel.size)).setCell (p:=⟨w.heap.size,ts.length,none⟩) (Nat.le_refl _) _
def msum:List SR->Nat
 | []=>0
 | s::ss=>s.row.length+msum ss
theorem msum_mem {ss:List SR} {s:SR} (h:s ∈ ss):s.row.length<=msum ss:=by
 induction ss with
 | nil=>simp at h
 | cons t ss ih =>
  rcases List.mem_cons.1 h with rfl | h
  ·simp only [msum];omega
  ·have:=ih h;simp only [msum];omega
end Go.Proofs.YteaieagkjepgiaaGreatDoorT
/- . -/
namespace Go.Proofs.YteaieagkjepgiaaGreatDoorT
set_option maxRecDepth 100000
open Go.RowKit
attribute [local go_sem ↓] Go.wp_at_zero Go.wp_at_succ
end Go.Proofs.YteaieagkjepgiaaGreatDoorT
/- . -/
namespace Go.Proofs.YteaieagkjepgiaaGreatDoorT
set_option maxRecDepth 100000
open Go.RowKit
attribute [local go_sem ↓] Go.wp_at_zero Go.wp_at_succ
structure Marked (k:Nat) (ss ts:List SR) (j:Nat):Prop where
 len:ts.length=ss.length
 same:∀ i (h:i<ss.length),ts[i].loc=ss[i].loc/\ts[i].cap=ss[i].cap/\ts[i].row.length=ss[i].row.length
 marks:∀ i (h:i<ss.length),i<j->ts[i].row=marksI (k+msum (ss.take i)) ss[i].row.length
theorem Marked.next {k:Nat} {ss ts:List SR} {j:Nat} (h:Marked k ss ts j) (hj:j<ss.length):Marked k ss (ts.set j { ts[j]'(by rw [h.len];exact hj) with row:=marksI (k+msum (ss.take j)) ss[j].row.length }) (j+1):=by
 have hj':j<ts.length:=by rw [h.len];exact hj
 refine ⟨by rw [List.length_set];exact h.len,fun i hi=>?_,fun i hi hij=>?_⟩
 ·by_cases e:j=i
  ·subst e
   rw [List.getElem_set_self]
   exact ⟨(h.same j hj).1,(h.same j hj).2.1,by rw [marksI_len]⟩
  ·rw [List.getElem_set_ne e];exact h.same i hi
 ·by_cases e:j=i
  ·subst e
   rw [List.getElem_set_self]
  ·rw [List.getElem_set_ne e];exact h.marks i hi (by omega)
end Go.Proofs.YteaieagkjepgiaaGreatDoorT
/- . -/
namespace Go.Proofs.YteaieagkjepgiaaGreatDoorT
set_option maxRecDepth 100000
open Go.RowKit
def xsum:List (List Int)->Nat
 | []=>0
 | x::X=>x.length+xsum X
theorem msum_rws (ss:List SR):msum ss=xsum (rws ss):=by
 induction ss with
 | nil=>rfl
 | cons s ss ih=>simp only [msum,rws,List.map_cons,xsum];rw [ih];rfl
def MSee (w:World) (v:Value) (X:List (List Int)) (lo hi:Nat):Prop:=∃ (a:Option Addr) (cap:Nat) (ss:List SR),v = .slice a ss.length cap/\rws ss=X/\MR w a ss lo hi
def MHeld (w:World) (v:Value) (k:Nat) (X:List (List Int)) (lo hi:Nat):Prop:=∃ (a:Option Addr) (cap:Nat) (ss ts:List SR),v = .slice a ss.length cap/\rws ss=X/\Marked k ss ts ss.length/\MR w a ts lo hi
theorem MAns.see {w:World} {v:Value} {X:List (List Int)} {lo hi:Nat} (h:MAns w v X lo hi):MSee w v X lo hi:=by
 obtain ⟨a,cap,ss,e,hr,_,h1⟩:=h
 refine ⟨a,cap,ss,e,hr,?_⟩
 rcases h1 with rfl | ⟨g,rfl,hm⟩
 ·exact MR.nil _ _ _ _
 ·exact hm.mr
theorem MSee.turned {w w':World} {v:Value} {X:List (List Int)} {lo hi lo' hi':Nat} (h:MSee w v X lo hi) (t:Turned w w' lo' hi') (hd:hi<=lo'\/hi'<=lo):MSee w' v X lo hi:=by
 obtain ⟨a,cap,ss,e,hr,h1⟩:=h
 exact ⟨a,cap,ss,e,hr,h1.turned t hd⟩
theorem MSee.below {w w':World} {v:Value} {X:List (List Int)} {lo hi:Nat} (h:MSee w v X lo hi) (hb:Below w.heap.size w w'):MSee w' v X lo hi:=by
 obtain ⟨a,cap,ss,e,hr,h1⟩:=h
 exact ⟨a,cap,ss,e,hr,h1.below hb⟩
theorem MHeld.turned {w w':World} {v:Value} {k:Nat} {X:List (List Int)} {lo hi lo' hi':Nat} (h:MHeld w v k X lo hi) (t:Turned w w' lo' hi') (hd:hi<=lo'\/hi'<=lo):MHeld w' v k X lo hi:=by
 obtain ⟨a,cap,ss,ts,e,hr,hm,h1⟩:=h
 exact ⟨a,cap,ss,ts,e,hr,hm,h1.turned t hd⟩
theorem MHeld.below {w w':World} {v:Value} {k:Nat} {X:List (List Int)} {lo hi:Nat} (h:MHeld w v k X lo hi) (hb:Below w.heap.size w w'):MHeld w' v k X lo hi:=by
 obtain ⟨a,cap,ss,ts,e,hr,hm,h1⟩:=h
 exact ⟨a,cap,ss,ts,e,hr,hm,h1.below hb⟩
theorem MAns.turned {w w':World} {v:Value} {X:List (List Int)} {lo hi lo' hi':Nat} (h:MAns w v X lo hi) (t:Turned w w' lo' hi') (hd:hi<=lo'\/hi'<=lo):MAns w' v X lo hi:=by
 obtain ⟨a,cap,ss,e,hr,hc,h1⟩:=h
 refine ⟨a,cap,ss,e,hr,hc,?_⟩
 rcases h1 with rfl | ⟨g,rfl,hm⟩
 ·exact .inl rfl
 ·exact .inr ⟨g,rfl,hm.turned t hd⟩
theorem MAns.below {w w':World} {v:Value} {X:List (List Int)} {lo hi:Nat} (h:MAns w v X lo hi) (hb:Below w.heap.size w w'):MAns w' v X lo hi:=by
 obtain ⟨a,cap,ss,e,hr,hc,h1⟩:=h
 refine ⟨a,cap,ss,e,hr,hc,?_⟩
 rcases h1 with rfl | ⟨g,rfl,hm⟩
 ·exact .inl rfl
 ·exact .inr ⟨g,rfl,hm.below hb⟩
def MPost (X:List (List Int)) (w:World) (e:Ending) (w':World):Prop:=∃ v,e = .returned v/\MAns w' v X w.heap.size w'.heap.size/\Below w.heap.size w w'
def MFit (X:List (List Int)):Prop:=X.length+xsum X<=1048576
theorem rows_fit {ss:List SR} {X:List (List Int)} (hr:rws ss=X) (hf:MFit X):ss.length<=1048576/\(∀ s ∈ ss,s.row.length<=1048576)/\msum ss=xsum X/\xsum X<=1048576:=by
 have h1:ss.length=X.length:=by rw [<-hr,rws_len]
 have h2:msum ss=xsum X:=by rw [msum_rws,hr]
 have h3:=hf
 unfold MFit at h3
 exact ⟨by omega,fun s hs=>by have:=msum_mem hs;omega,h2,by omega⟩
end Go.Proofs.YteaieagkjepgiaaGreatDoorT
/- . -/
namespace Go.Proofs.YteaieagkjepgiaaGreatDoorT
set_option maxRecDepth 100000
open Go.RowKit
theorem row_apart {w:World} {b B t n:Nat} {v:Value} {row:List Int} {ts:List SR} (h:WCells w b (ics row)) (hr:row ≠ []) (ho:w.ownsRow B t 1 v n (svs ts)) (hts:ts ≠ []):v.ownBlock ≠ some b:=by
 intro e
 have hc:=ho.cells e
 obtain ⟨x,r,rfl⟩:=List.exists_cons_of_ne_nil hr
 obtain ⟨s,t',rfl⟩:=List.exists_cons_of_ne_nil hts
 have h1:=(h.2 0 (.int .i64 x) rfl).1
 have h2:=hc 0 (srv s) rfl
 have e2:(⟨b,0,none⟩:Addr).add 0=⟨b,0,none⟩:=by simp [Addr.add]
 rw [e2,h1] at h2
 simp [srv] at h2
structure BI (w wr:World) (v:Value) (ts:List SR):Prop where
 own:wr.ownsRow w.heap.size 39 1 v ts.length (svs ts)
 rows:∀ s ∈ ts,∃ b,s.loc=some ⟨b,0,none⟩/\w.heap.size<=b/\WCells wr b (ics s.row)/\s.row.length<=s.cap/\s.row ≠ []
 apart:(ts.map SR.loc).Nodup
 bel:Below w.heap.size w wr
theorem BI.start (w:World) {wr:World} {v:Value} (ho:wr.ownsRow w.heap.size 39 1 v 0 []) (hb:Below w.heap.size w wr):BI w wr v []:=⟨ho,by simp,List.nodup_nil,hb⟩
theorem BI.below {w wr w':World} {v:Value} {ts:List SR} (h:BI w wr v ts) (hb:Below wr.heap.size wr w'):BI w w' v ts:=
 ⟨h.own.kept (row:=none) ⟨hb.os,hb.tape,hb.output,hb.size,fun k hk _=>hb.block k hk⟩ (Classical.em _),fun s hs=>by
  obtain ⟨b,e,q1,q2,q3⟩:=h.rows s hs
  exact ⟨b,e,q1,q2.below hb q2.1,q3⟩,h.apart,h.bel.trans (hb.mono h.bel.size)⟩
theorem BI.other {w wr w':World} {v:Value} {ts:List SR} {B g:Nat} (h:BI w wr v ts) (hg:wr.grownBy w' (some g)) (hB:B<=g) (ho:∀ q,v.ownBlock=some q->q<B) (hr:∀ s ∈ ts,∀ b,s.loc=some ⟨b,0,none⟩->b<B) (hw:w.heap.size<=B) (hs:w.heap.size<=wr.heap.size):BI w w' v ts:=by
 refine ⟨h.own.kept hg (.inr fun e=>by have:=ho g e;omega),fun s hs'=>?_,h.apart,h.bel.grown hg hs (fun k e=>by cases e;omega)⟩
 obtain ⟨b,e,q1,q2,q3⟩:=h.rows s hs'
 exact ⟨b,e,q1,q2.apart hg (by have:=hr s hs' b e;omega),q3⟩
theorem BI.append {w wr w1:World} {v v':Value} {ts:List SR} {o:Obj} {b:Nat} {row:List Int} {cap:Nat} (h:BI w wr v ts) (hb:w.heap.size<=b) (hrow:WCells wr b (ics row)) (hne:row ≠ []) (hcap:row.length<=cap)
  (hv:∀ q,v.ownBlock=some q->q ≠ b) (hnew:∀ s ∈ ts,s.loc ≠ some ⟨b,0,none⟩)
  (hown:w1.ownsRow w.heap.size 39 1 v' (ts.length+1) (svs ts++[.slice (some ⟨b,0,none⟩) row.length cap])) (hg:(wr.alloc o).grownBy w1 v.ownBlock):BI w w1 v' (ts++[SR.mk (some ⟨b,0,none⟩) row cap]):=by
 have keep:∀ {c:Nat} {L:List Value},WCells wr c L->(∀ q,v.ownBlock=some q->q ≠ c)->WCells w1 c L:=fun {c L} hc hq=>by
  have h1:WCells (wr.alloc o) c L:=hc.below ((Below.refl wr.heap.size wr).alloc (Nat.le_refl _) o) hc.1
  refine ⟨Nat.lt_of_lt_of_le h1.1 hg.size,fun i u hu=>?_⟩
  have hbk:w1.heap[c]?=(wr.alloc o).heap[c]?:=hg.block c h1.1 (fun e=>hq c e.symm rfl)
  exact ⟨(World.cell?_of_block (a:=⟨c,i,none⟩) hbk).trans (h1.2 i u hu).1,(World.frozen?_of_block (a:=⟨c,i,none⟩) hbk).trans (h1.2 i u hu).2⟩
 refine ⟨?_,fun s hs=>?_,?_,(h.bel.alloc h.bel.size o).grown hg (by have:=h.bel.size;simp;omega) (fun k e=>(h.own.lt k e).1)⟩
 ·have e:svs (ts++[SR.mk (some ⟨b,0,none⟩) row cap])=svs ts++[.slice (some ⟨b,0,none⟩) row.length cap]:=by simp [svs,srv]
  rw [e,List.length_append]
  exact hown
 ·rcases List.mem_append.1 hs with h1 | h1
  ·obtain ⟨c,e,q1,q2,q3,q4⟩:=h.rows s h1
   refine ⟨c,e,q1,keep q2 (fun q hq=>?_),q3,q4⟩
   have:=row_apart q2 q4 h.own (List.ne_nil_of_mem h1)
   intro e2;subst e2;exact this hq
  ·simp at h1
   subst h1
   exact ⟨b,rfl,hb,keep hrow hv,hcap,hne⟩
 ·rw [List.map_append,List.nodup_append]
  refine ⟨h.apart,by simp,fun l hl l' hl'=>?_⟩
  obtain ⟨s,hs,rfl⟩:=List.mem_map.1 hl
  simp only [List.map_cons,List.map_nil,List.mem_singleton] at hl'
  subst hl'
  exact hnew s hs
theorem BI.fin {w wr:World} {v:Value} {ts:List SR} {X:List (List Int)} (h:BI w wr v ts) (hX:rws ts=X):MAns wr v X w.heap.size wr.heap.size:=by
 have hlt:=h.own.lt
 have hown:=h.own
 obtain ⟨_,⟨rfl,h0⟩ | ⟨g,cap,cur,rfl,hB,hcur,hn,_⟩⟩:=hown
 ·have:ts=[]:=List.eq_nil_of_length_eq_zero h0
  subst this
  exact ⟨none,0,[],rfl,hX,Nat.le_refl _,.inl rfl⟩
 ·refine ⟨_,cap,ts,rfl,hX,hn,?_⟩
  by_cases hts:ts=[]
  ·exact .inl hts
  ·refine .inr ⟨g,rfl,own_wcells h.own,hB,(hlt g rfl).2,fun s hs=>?_,h.apart⟩
   obtain ⟨b,e,q1,q2,q3,q4⟩:=h.rows s hs
   refine ⟨b,e,q1,q2.1,fun eb=>?_,q2,q3⟩
   subst eb
   exact row_apart q2 q4 h.own hts rfl
end Go.Proofs.YteaieagkjepgiaaGreatDoorT
/- . -/
namespace Go.Proofs.YteaieagkjepgiaaGreatDoorT
set_option maxRecDepth 100000
open Go.RowKit
attribute [local go_sem ↓] Go.wp_at_zero Go.wp_at_succ
theorem lIn_is (x a b:Int) (w:World) (r:Bool) (h:(decide (a<=x)&&decide (x<=b))=r):Calls Tw.prog 59 #[.int .i64 x,.int .i64 a,.int .i64 b] w fun e w'=>e = .returned (.bool r)/\w'=w:=by
 rw [<-h];exact l01In_any x a b w
def numOk (y:Int):Bool:=decide (0<=y)&&decide (y<=255)
def rowOk (c:Nat) (x:List Int):Bool:=decide (x.length=c)&&(decide (1<=(x.length:Int))&&decide ((x.length:Int)<=8))&&x.all numOk
def matOk (X:List (List Int)):Bool:=X.all (rowOk (X.headD []).length)&&(decide (1<=(X.length:Int))&&decide ((X.length:Int)<=8))
theorem matOk_no {X:List (List Int)} {x:List Int} (hx:x ∈ X) (h:rowOk (X.headD []).length x=false):matOk X=false:=by
 unfold matOk
 have:X.all (rowOk (X.headD []).length)=false:=by rw [List.all_eq_false];exact ⟨x,hx,by rw [h];simp⟩
 rw [this];rfl
theorem matOk_end {X:List (List Int)} (h:∀ x ∈ X,rowOk (X.headD []).length x=true):matOk X=(decide (1<=(X.length:Int))&&decide ((X.length:Int)<=8)):=by
 unfold matOk
 rw [List.all_eq_true.2 h,Bool.true_and]
theorem rowOk_num {c:Nat} {x:List Int} {k:Nat} (hk:k<x.length) (h:numOk (x.getD k 0)=false):rowOk c x=false:=by
 unfold rowOk
 have e:x.getD k 0=x[k]:=by simp [List.getD,hk]
 rw [e] at h
 have:x.all numOk=false:=by rw [List.all_eq_false];exact ⟨x[k],List.getElem_mem hk,by rw [h];simp⟩
 rw [this,Bool.and_false]
theorem rowOk_yes {c:Nat} {x:List Int} (h1:x.length=c) (h2:(decide (1<=(x.length:Int))&&decide ((x.length:Int)<=8))=true) (h3:∀ k,k<x.length->numOk (x.getD k 0)=true):rowOk c x=true:=by
 unfold rowOk
 rw [decide_eq_true h1,h2,Bool.true_and,Bool.true_and,List.all_eq_true]
 intro y hy
 obtain ⟨k,hk,rfl⟩:=List.mem_iff_getElem.1 hy
 have:=h3 k hk
 simpa [List.getD,hk] using this
set_option maxRecDepth 100000 in
set_option maxHeartbeats 2000000 in
theorem specMatrixOk {w:World} {v:Value} {X:List (List Int)} {lo hi:Nat} (hs:MSee w v X lo hi) (hf:MFit X) :
  Calls Tw.prog 60 #[v] w fun e w'=>e = .returned (.bool (matOk X))/\Below w.heap.size w w':=by
 obtain ⟨a,cap,ss,rfl,hr,hm⟩:=hs
 obtain ⟨hl,hrl,_,_⟩:=rows_fit hr hf
 have HM:Hid (MR w a ss lo hi):=hm
 have HX:Hid (rws ss=X/\∀ s ∈ ss,s.row.length<=1048576):=⟨hr,hrl⟩
 obtain ⟨n,hn⟩:∃ n,n=ss.length:=⟨_,rfl⟩
 have HN:Hid (n=ss.length/\X.length=n):=⟨hn,by rw [<-hr,rws_len,hn]⟩
 rw [<-hn]
 rw [<-hn] at hl
 clear hm hr hrl hf hn
 obtain ⟨c,hc⟩:∃ c,c=(X.headD []).length:=⟨_,rfl⟩
 have HC:Hid (c=(X.headD []).length):=hc
 clear hc
 go_enter Tw.func60,Tw.ntmps60
 go_wp2_with fail
 go_loopw [3] (fun i wr=>∃ (k:Nat),i = .int .i64 k/\k<=n/\(∀ j (h:j<ss.length),j<k->rowOk c ss[j].row=true)/\Below w.heap.size w wr) (fun i _=>n - (intOf i).toNat)
 case atStart=>exact ⟨0,rfl,by omega,fun j _ h=>by omega,Below.refl _ _⟩
 case round =>
  obtain ⟨k,rfl,hk,hok,hbl⟩:=hrel
  obtain ⟨wo,rfl⟩:∃ wo,wo=wr:=⟨_,rfl⟩
  have HOK:Hid (∀ j (h:j<ss.length),j<k->rowOk c ss[j].row=true):=hok
  clear hok
  by_cases hlt:k<n
  ·have hls:k<ss.length:=by have:=HN.out.1;omega
   have h0s:0<ss.length:=by omega
   have HM':=HM.out.below hbl
   obtain ⟨b,off,rfl,lb,hcell⟩:=HM'.at h0s
   have d1:=hcell k hls
   have d0:wo.cell? ⟨b,off,none⟩=some (srv ss[0]):=hcell 0 h0s
   have hhead:(ss[0].row).length=c:=by
    rw [HC.out,<-HX.out.1]
    have:(rws ss).headD []=ss[0].row:=by cases ss with | nil=>simp at h0s | cons s t=>rfl
    rw [this]
   have hrr:=(HM'.2 ss[k] (List.getElem_mem hls)).crow
   have hmem:ss[k].row ∈ X:=by rw [<-HX.out.1];exact List.mem_map.2 ⟨ss[k],List.getElem_mem hls,rfl⟩
   have hle:=HX.out.2 ss[k] (List.getElem_mem hls)
   have HSK:Hid (∀ x:List Int,ss[k].row=x->rowOk c x=true->∀ j (h:j<ss.length),j<k+1->rowOk c ss[j].row=true):=fun x hx hxo j hj hjk=>by
    by_cases e:j=k
    ·subst e;rw [hx];exact hxo
    ·exact HOK.out j hj (by omega)
   unfold srv at d0 d1
   rw [hhead] at d0
   generalize ss[0].loc=loc0 at d0
   generalize ss[0].cap=cp0 at d0
   obtain ⟨row,hrow⟩:∃ row,row=ss[k].row:=⟨_,rfl⟩
   have HROW:Hid (ss[k].row=row/\row ∈ X):=⟨hrow.symm,by rw [hrow];exact hmem⟩
   rw [<-hrow] at d1 hrr hle
   generalize ss[k].loc=loc at *
   generalize ss[k].cap=cp at *
   have k0:(0:Int)<=(k:Int):=by omega
   have k1:(k:Int)<(n:Int):=by omega
   have n0:(0:Int)<(n:Int):=by omega
   have HB:Hid (Below w.heap.size w wo):=hbl
   have HRR:Hid (CRow wo loc (ics row)):=hrr
   clear hrow hcell hhead hmem hrr HM' hbl
   by_cases hlen:row.length=c
   ·subst hlen
    have e1:((row.length:Int) != (row.length:Int))=false:=by simp
    obtain ⟨r,hrb⟩:∃ r,(decide ((1:Int)<=(row.length:Int))&&decide ((row.length:Int)<=8))=r:=⟨_,rfl⟩
    cases r
    ·have HNO:Hid (matOk X=false):=matOk_no HROW.out.2 (by rw [<-HC.out];unfold rowOk;rw [hrb];simp)
     go_wp2_with fail
     go_quiet ((go_at_call 59;exact Calls.quiet_of_same (lIn_is _ _ _ _ false hrb)))
     go_wp2_with fail
     go_ret
     exact ⟨by rw [HNO.out];rfl,HB.out.trans ⟨rfl,rfl,rfl,Nat.le_refl _,fun _ _=>rfl⟩⟩
    ·have HRB:Hid _:=hrb
     go_wp2_with fail
     go_quiet ((go_at_call 59;exact Calls.quiet_of_same (lIn_is _ _ _ _ true hrb)))
     go_wp2_with fail
     go_loopw [4] (fun i wq=>∃ (t:Nat),i = .int .i64 t/\t<=row.length/\(∀ u,u<t->numOk (row.getD u 0)=true)/\Below wo.heap.size wo wq) (fun i _=>row.length - (intOf i).toNat)
     case atStart=>exact ⟨0,rfl,by omega,fun u h=>by omega,⟨rfl,rfl,rfl,Nat.le_refl _,fun _ _=>rfl⟩⟩
     case round =>
      obtain ⟨t,rfl,ht,hnum,hbq⟩:=hrel
      have HNUM:Hid (∀ u,u<t->numOk (row.getD u 0)=true):=hnum
      clear hnum
      have dq:wr.cell? ⟨b,off+k,none⟩=some (.slice loc row.length cp):=(hbq.cell (p:=⟨b,off+k,none⟩) lb).trans d1
      have hqs:=hbq.size
      have lbq:b<wr.heap.size:=by omega
      by_cases htl:t<row.length
      ·obtain ⟨b3,o3,rfl,l3,hc3⟩:=crow_int (HRR.out.stays hbq) (by omega)
       have d3:=hc3 t htl
       obtain ⟨y,hy⟩:∃ y,y=row.getD t 0:=⟨_,rfl⟩
       have HY:Hid (y=row.getD t 0):=hy
       rw [<-hy] at d3
       have t0:(0:Int)<=(t:Int):=by omega
       have t1:(t:Int)<(row.length:Int):=by omega
       have HBQ:Hid (Below wo.heap.size wo wr):=hbq
       obtain ⟨q,hq⟩:∃ q,(decide ((0:Int)<=y)&&decide (y<=255))=q:=⟨_,rfl⟩
       clear hc3 hy hbq
       cases q
       ·have HNO:Hid (matOk X=false):=matOk_no HROW.out.2 (by rw [<-HC.out];exact rowOk_num htl (by rw [<-HY.out];exact hq))
        go_wp2_with fail
        refine (lIn_is _ _ _ _ false hq).mono ?_
        rintro e w5 ⟨rfl,rfl⟩
        go_wp2_with fail
        go_ret
        exact ⟨by rw [HNO.out];rfl,HB.out.trans (HBQ.out.mono HB.out.size)⟩
       ·have HQ:Hid (numOk (row.getD t 0)=true):=by rw [<-HY.out];exact hq
        go_wp2_with fail
        refine (lIn_is _ _ _ _ true hq).mono ?_
        rintro e w5 ⟨rfl,rfl⟩
        go_wp2_with fail
        go_roundw
        case rel=>exact ⟨t+1,by go_num,by omega,fun u hu=>by
         by_cases e:u=t
         ·subst e;exact HQ.out
         ·exact HNUM.out u (by omega),HBQ.out⟩
        case measure=>simp [intOf];omega
      ·have e:t=row.length:=by omega
       have HALL:Hid (rowOk row.length row=true):=rowOk_yes rfl HRB.out (fun u hu=>HNUM.out u (by omega))
       have HBQ:Hid (Below wo.heap.size wo wr):=hbq
       clear hbq e
       go_wp2_with fail
       go_roundw
       case rel=>exact ⟨k+1,by go_num,by omega,HSK.out row HROW.out.1 HALL.out,HB.out.trans (HBQ.out.mono HB.out.size)⟩
       case measure=>simp [intOf];omega
   ·have e1:((row.length:Int) != (c:Int))=true:=by rw [bne_iff_ne];omega
    have HNO:Hid (matOk X=false):=matOk_no HROW.out.2 (by rw [<-HC.out];unfold rowOk;rw [decide_eq_false hlen];rfl)
    go_wp2_with fail
    go_quiet (fail)
    go_wp2_with fail
    go_ret
    exact ⟨by rw [HNO.out];rfl,HB.out.trans ⟨rfl,rfl,rfl,Nat.le_refl _,fun _ _=>rfl⟩⟩
  ·have e:k=n:=by omega
   have HEND:Hid (matOk X=(decide ((1:Int)<=(n:Int))&&decide ((n:Int)<=8))):=by
    have h1:∀ x ∈ X,rowOk (X.headD []).length x=true:=fun x hx=>by
     rw [<-HX.out.1] at hx
     obtain ⟨s,hs,rfl⟩:=List.mem_map.1 hx
     obtain ⟨j,hj,rfl⟩:=List.mem_iff_getElem.1 hs
     rw [<-HC.out]
     exact HOK.out j hj (by have:=HN.out.1;omega)
    have:=matOk_end h1
    rw [HN.out.2] at this
    exact this
   have HB:Hid (Below w.heap.size w wo):=hbl
   clear hbl
   subst e
   obtain ⟨q,hq⟩:∃ q,(decide ((1:Int)<=(k:Int))&&decide ((k:Int)<=8))=q:=⟨_,rfl⟩
   have HQ:Hid (matOk X=q):=by rw [<-hq];exact HEND.out
   go_wp2_with fail
   refine (lIn_is _ _ _ _ q hq).mono ?_
   rintro e w5 ⟨rfl,rfl⟩
   go_wp2_with fail
   go_ret
   exact ⟨by rw [HQ.out];rfl,HB.out⟩
end Go.Proofs.YteaieagkjepgiaaGreatDoorT
