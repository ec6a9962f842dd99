/- Texts of ours, laid one behind the other: EdE, EcA, LogM, OpenM, EdC, PaI, PaJ, NestB, StrW, OffA, GuardA, OffB, PaK, LawPth, Draw, DrawB, DrawP, DrPk, DrPth, FrT, OpenC, LawPts, PaL, SpnB, ShortText, PathS, VarBack, ActA, DiskA, DiskB, DiskC. -/
import Derived.Test.YtoglebfiobofoaaGreatDoorQr2
import Derived.Test.YtoglebfiobofoaaGreatDoorQr1
import Derived.Deep.Slices
import Derived.Deep.Strs
import Derived.ChangeArms
import Derived.ChangeSame
import Derived.WideShapes
import Derived.OpenShut
import Derived.WalkSmall
import Derived.Laws.RangeAny
import Derived.Test.YtoglebfiobofoaaGreatDoorRows
import Derived.Maps.AppendAt
import Derived.ArgAppend
import Derived.Test.YtoglebfiobofoaaGreatDoorQrShf
import Derived.PlainAid
import Derived.Deep.QuietTactic
import Derived.BigQuiet
import Derived.Deep.RegionHeld3
import Derived.Deep.DrawnRows
import Derived.OwnWalk
import Derived.Deep.AppendLies
/- EdE: . -/
namespace Go.Proofs.YtoglebfiobofoaaGreatDoor
set_option maxRecDepth 100000
set_option maxHeartbeats 16000000
open Go.RowKit
open Go.PlainAid (bt)
attribute [local go_sem ↓] Go.wp_at_zero Go.wp_at_succ
variable {X Y:EM} {A B:Nat} {w w0:World}
def r3 (o:Option (ByteArray × Nat)):ByteArray × Nat × Bool:=match o with
 | none=>(⟨#[]⟩,0,false)
 | some (t,p)=>(t,p,true)
theorem rsV_r3 (o:Option (ByteArray × Nat)):rsV o = .tuple #[.string (r3 o).1,.int .i64 ((r3 o).2.1:Nat),.bool (r3 o).2.2]:=by cases o <;> rfl
def n3 (o:Option (Nat × Nat)):Nat × Nat × Bool:=match o with
 | none=>(0,0,false)
 | some (t,p)=>(t,p,true)
theorem rvV_n3 (o:Option (Nat × Nat)):rvV o = .tuple #[.int .i64 ((n3 o).1:Nat),.int .i64 ((n3 o).2.1:Nat),.bool (n3 o).2.2]:=by cases o <;> rfl
def part1 (s:ByteArray):ByteArray × Nat × Bool:=r3 (qan s 2)
def part2 (s:ByteArray):ByteArray × Nat × Bool:=r3 (qan s ((part1 s).2.1:Nat))
def part3 (s:ByteArray):Nat × Nat × Bool:=n3 (qaq s ((part2 s).2.1:Nat))
def qev (s:ByteArray):EM:=⟨bt s 0,(part1 s).1,(part2 s).1,((part3 s).1:Nat),bt s 1⟩
def isE (s:ByteArray):Bool:=decide (2<=s.size)&&(part1 s).2.2&&(part2 s).2.2&&(part3 s).2.2&&qat (qev s)&&decide (editT (qev s)=s)
def readE (s:ByteArray):EM × Bool:=if isE s then (qev s,true) else (zeroE,false)
theorem qda (s:ByteArray) (a:Int):(r3 (qan s a)).1.size<=20000:=by
 unfold qan
 cases qaq s a with
 | none=>exact Nat.zero_le _
 | some x =>
  obtain ⟨n,p⟩:=x
  dsimp only
  split
  ·rename_i h
   simp only [r3,ByteArray.size_extract]
   omega
  ·exact Nat.zero_le _
def R2 (w0 w:World) (A B:Nat) (X Y:EM):Prop:=WCells w A (qah X)/\WCells w B (qah Y)/\A ≠ B/\w0.heap.size<=A/\w0.heap.size<=B/\Below w0.heap.size w0 w
theorem R2.below {w0 w w':World} (h:R2 w0 w A B X Y) (hb:Below w.heap.size w w'):R2 w0 w' A B X Y:=
 ⟨h.1.grow hb,h.2.1.grow hb,h.2.2.1,h.2.2.2.1,h.2.2.2.2.1,h.2.2.2.2.2.trans (hb.mono h.2.2.2.2.2.size)⟩
theorem R2.set {X Y Z:EM} (h:R2 w0 w A B X Y) (i:Nat) (v:Value) (hi:i<5) (hz:(qah Y).set i v=qah Z):R2 w0 (w.setCell ⟨B,i,none⟩ v) A B X Z:=
 ⟨h.1.other _ _ h.2.2.1,by rw [<-hz];exact h.2.1.set i v (by rw [qbv];exact hi),h.2.2.1,h.2.2.2.1,h.2.2.2.2.1,h.2.2.2.2.2.setCell h.2.2.2.2.1 _⟩
theorem R2.swap (h:R2 w0 w A B X Y):R2 w0 w B A Y X:=⟨h.2.1,h.1,Ne.symm h.2.2.1,h.2.2.2.2.1,h.2.2.2.1,h.2.2.2.2.2⟩
theorem R2.got (h:R2 w0 w A B X Y) (i:Nat) (v:Value) (hv:(qah Y)[i]?=some v):w.cell? ⟨B,i,none⟩=some v/\w.frozen? ⟨B,i,none⟩=false:=h.2.1.2 i v hv
theorem R2.put (h:R2 w0 w A B X Y) (Z:EM):R2 w0 (put5 w A Z) A B Z Y:=
 ((((((h.swap).set (Z:=⟨Z.kind,X.path,X.dest,X.num,X.who⟩) 0 _ (by omega) rfl).set (Z:=⟨Z.kind,Z.path,X.dest,X.num,X.who⟩) 1 _ (by omega) rfl).set (Z:=⟨Z.kind,Z.path,Z.dest,X.num,X.who⟩) 2 _ (by omega) rfl).set (Z:=⟨Z.kind,Z.path,Z.dest,Z.num,X.who⟩) 3 _ (by omega) rfl).set (Z:=Z) 4 _ (by omega) rfl).swap
theorem str_neE {a b:ByteArray} (h:a ≠ b):(a.toList==b.toList)=false:=by
 rw [ByteArray.toList_eq,ByteArray.toList_eq,beq_eq_false_iff_ne]
 exact fun e=>h (ByteArray.ext (Array.toList_inj.1 e))
theorem qpg (s:ByteArray) (k:Nat):wrap64 (bt s k)=bt s k:=by
 have h:0<=bt s k/\bt s k<=255:=by
  unfold bt
  split
  ·rename_i h
   have:=(s[k]'h).toNat_lt
   omega
  ·omega
 unfold wrap64
 omega
theorem specReadEdit (s:ByteArray) (w:World) (hs:s.size<=1048576):Calls Tryz.prog 83 #[.string s] w fun r w'=>r = .returned (.tuple #[ev (readE s).1,.bool (readE s).2])/\Below w.heap.size w w':=by
 by_cases h2:s.size<2
 ·have he:readE s=(zeroE,false):=by
   unfold readE isE
   rw [decide_eq_false (by omega)]
   rfl
  rw [he]
  have h2':(s.size:Int)<2:=by omega
  go_enter Tryz.func83,Tryz.ntmps83
  go_wp2_with fail
  refine bodyPost_ret (v:=.tuple #[ev zeroE,.bool false]) (by simp [results,Tryz.results83,go_sem,zeroE]) rfl ⟨rfl,?_⟩
  exact (Below.refl _ _).alloc (Nat.le_refl _) _
 ·have HS1:=Sh.mk (fun W=>qgx s 2 W hs)
  have HS2:=Sh.mk (fun W=>qgx s ((part1 s).2.1:Nat) W hs)
  have HS3:=Sh.mk (fun W=>qjt s ((part2 s).2.1:Nat) W hs)
  have HT:=Sh.mk (fun W=>specEditText (qev s) W ⟨Nat.le_trans (qda s _) (by omega),Nat.le_trans (qda s _) (by omega)⟩)
  simp only [rsV_r3] at HS1 HS2
  simp only [rvV_n3] at HS3
  change Sh (∀ W,Calls Tryz.prog 128 #[.string s,.int .i64 2] W fun e w'=>e = .returned (.tuple #[.string (part1 s).1,.int .i64 ((part1 s).2.1:Nat),.bool (part1 s).2.2])/\Below W.heap.size W w') at HS1
  change Sh (∀ W,Calls Tryz.prog 128 #[.string s,.int .i64 ((part1 s).2.1:Nat)] W fun e w'=>e = .returned (.tuple #[.string (part2 s).1,.int .i64 ((part2 s).2.1:Nat),.bool (part2 s).2.2])/\Below W.heap.size W w') at HS2
  change Sh (∀ W,Calls Tryz.prog 127 #[.string s,.int .i64 ((part2 s).2.1:Nat)] W fun e w'=>e = .returned (.tuple #[.int .i64 ((part3 s).1:Nat),.int .i64 ((part3 s).2.1:Nat),.bool (part3 s).2.2])/\Below W.heap.size W w') at HS3
  have HRE:Sh (readE s=if (part1 s).2.2&&(part2 s).2.2&&(part3 s).2.2&&qat (qev s)&&decide (editT (qev s)=s) then (qev s,true) else (zeroE,false)):=⟨by unfold readE isE;rw [decide_eq_true (by omega),Bool.true_and]⟩
  obtain ⟨E,hE⟩:∃ E,E=qev s:=⟨_,rfl⟩
  have hE0:E.kind=bt s 0:=by rw [hE];rfl
  have hE1:E.path=(part1 s).1:=by rw [hE];rfl
  have hE2:E.dest=(part2 s).1:=by rw [hE];rfl
  have hE3:E.num=((part3 s).1:Nat):=by rw [hE];rfl
  have hE4:E.who=bt s 1:=by rw [hE];rfl
  rw [<-hE] at HT HRE
  rw [<-hE1] at HS1
  rw [<-hE2] at HS2
  rw [<-hE3] at HS3
  clear hE hE1 hE2 hE3
  generalize (part1 s).2.1=a1 at HS1 HS2
  generalize (part2 s).2.1=a2 at HS2 HS3
  generalize (part3 s).2.1=a3 at HS3
  generalize (part1 s).2.2=b1 at HS1 HRE
  generalize (part2 s).2.2=b2 at HS2 HRE
  generalize (part3 s).2.2=b3 at HS3 HRE
  obtain ⟨BK,hBK⟩:∃ BK,BK=(if qat E then editT E else ⟨#[]⟩):=⟨_,rfl⟩
  have hBT:qat E=true->BK=editT E:=fun h=>by rw [hBK,if_pos h]
  rw [<-hBK] at HT
  clear hBK
  generalize qat E=b4 at HT HRE hBT
  have HBT:=Sh.mk hBT
  clear hBT
  have hb:=Go.PlainAid.get_bt s
  obtain ⟨kind,path,dest,num,who⟩:=E
  dsimp only at *
  subst hE0 hE4
  have h2':¬ ((s.size:Int)<2):=by omega
  have h3':(0:Int)<s.size:=by omega
  have h4':(1:Int)<s.size:=by omega
  have h3:0<s.size:=by omega
  have h4:1<s.size:=by omega
  have hw0:=qpg s 0
  have hw1:=qpg s 1
  go_enter Tryz.func83,Tryz.ntmps83
  go_upto_region 3 with fail
  go_region
  have HR:Sh (R2 w ((w.alloc (.cells #[.int .i64 0,.string ⟨#[]⟩,.string ⟨#[]⟩,.int .i64 0,.int .i64 0] 33)).alloc (.cells #[.int .i64 (bt s 0),.string ⟨#[]⟩,.string ⟨#[]⟩,.int .i64 0,.int .i64 (bt s 1)] 33)).drew w.heap.size (w.heap.size+1) zeroE ⟨bt s 0,⟨#[]⟩,⟨#[]⟩,0,bt s 1⟩):=by
   refine ⟨⟨((qad w _ _).alloc _).grow (Below.drew (Below.refl _ _)),?_,by omega,by omega,by omega,(((Below.refl _ _).alloc (Nat.le_refl _) _).alloc (by simp) _).drew⟩⟩
   have q:=qad (w.alloc (.cells #[.int .i64 0,.string ⟨#[]⟩,.string ⟨#[]⟩,.int .i64 0,.int .i64 0] 33)) #[.int .i64 (bt s 0),.string ⟨#[]⟩,.string ⟨#[]⟩,.int .i64 0,.int .i64 (bt s 1)] 33
   rw [World.size_alloc] at q
   exact q.grow (Below.drew (Below.refl _ _))
  obtain ⟨W4,hW4⟩:∃ W4,W4=((w.alloc (.cells #[.int .i64 0,.string ⟨#[]⟩,.string ⟨#[]⟩,.int .i64 0,.int .i64 0] 33)).alloc (.cells #[.int .i64 (bt s 0),.string ⟨#[]⟩,.string ⟨#[]⟩,.int .i64 0,.int .i64 (bt s 1)] 33)).drew:=⟨_,rfl⟩
  rw [<-hW4] at HR ⊢
  clear hW4
  go_upto_region 5 with (go_at_call 128;refine (HS1.1 _).mono ?_;rintro e w5 ⟨rfl,hb5⟩;have HR2:=Sh.mk (HR.1.below hb5);clear hb5 HR;have HR:=HR2;clear HR2)
  go_upto_region 6 with (go_at_call 128;refine (HS2.1 _).mono ?_;rintro e w5 ⟨rfl,hb5⟩;have HR2:=Sh.mk (HR.1.below hb5);clear hb5 HR;have HR:=HR2;clear HR2)
  go_upto_region 7 with (go_at_call 127;refine (HS3.1 _).mono ?_;rintro e w5 ⟨rfl,hb5⟩;have HR2:=Sh.mk (HR.1.below hb5);clear hb5 HR;have HR:=HR2;clear HR2)
  have x:=HR.1.got 1 _ rfl
  obtain ⟨x0,x1⟩:=x
  go_upto_region 8 with fail
  have HR2:Sh (R2 w (w5.setCell ⟨w.heap.size+1,1,none⟩ (.string path)) w.heap.size (w.heap.size+1) zeroE ⟨bt s 0,path,⟨#[]⟩,0,bt s 1⟩):=⟨HR.1.set 1 _ (by omega) rfl⟩
  obtain ⟨w6,hw6⟩:∃ w6,w6=w5.setCell ⟨w.heap.size+1,1,none⟩ (.string path):=⟨_,rfl⟩
  rw [<-hw6] at HR2 ⊢
  clear hw6 HR x0 x1
  have HR:=HR2
  clear HR2
  try clear w5
  obtain ⟨w5,hw5⟩:∃ w5,w5=w6:=⟨_,rfl⟩
  rw [<-hw5] at HR ⊢
  clear hw5
  try clear w6
  have x:=HR.1.got 2 _ rfl
  obtain ⟨x0,x1⟩:=x
  go_upto_region 9 with fail
  have HR2:Sh (R2 w (w5.setCell ⟨w.heap.size+1,2,none⟩ (.string dest)) w.heap.size (w.heap.size+1) zeroE ⟨bt s 0,path,dest,0,bt s 1⟩):=⟨HR.1.set 2 _ (by omega) rfl⟩
  obtain ⟨w6,hw6⟩:∃ w6,w6=w5.setCell ⟨w.heap.size+1,2,none⟩ (.string dest):=⟨_,rfl⟩
  rw [<-hw6] at HR2 ⊢
  clear hw6 HR x0 x1
  have HR:=HR2
  clear HR2
  try clear w5
  obtain ⟨w5,hw5⟩:∃ w5,w5=w6:=⟨_,rfl⟩
  rw [<-hw5] at HR ⊢
  clear hw5
  try clear w6
  have x:=HR.1.got 3 _ rfl
  obtain ⟨x0,x1⟩:=x
  go_upto_region 10 with fail
  have HR2:Sh (R2 w (w5.setCell ⟨w.heap.size+1,3,none⟩ (.int .i64 num)) w.heap.size (w.heap.size+1) zeroE ⟨bt s 0,path,dest,num,bt s 1⟩):=⟨HR.1.set 3 _ (by omega) rfl⟩
  obtain ⟨w6,hw6⟩:∃ w6,w6=w5.setCell ⟨w.heap.size+1,3,none⟩ (.int .i64 num):=⟨_,rfl⟩
  rw [<-hw6] at HR2 ⊢
  clear hw6 HR x0 x1
  have HR:=HR2
  clear HR2
  try clear w5
  obtain ⟨w5,hw5⟩:∃ w5,w5=w6:=⟨_,rfl⟩
  rw [<-hw5] at HR ⊢
  clear hw5
  try clear w6
  have c0:=(HR.1.got 0 _ rfl).1
  have c1:=(HR.1.got 1 _ rfl).1
  have c2:=(HR.1.got 2 _ rfl).1
  have c3:=(HR.1.got 3 _ rfl).1
  have c4:=(HR.1.got 4 _ rfl).1
  dsimp only at c0 c1 c2 c3 c4
  go_upto_region 11 with (go_at_call 50;refine (HT.1 _).mono ?_;rintro e w7 ⟨rfl,hb7⟩;have HR2:=Sh.mk (HR.1.below hb7);clear hb7 HR c0 c1 c2 c3 c4;have HR:=HR2;clear HR2)
  have HB:=Sh.mk HR.1.2.2.2.2.2
  obtain ⟨z0,y0⟩:=HR.1.swap.got 0 _ rfl
  obtain ⟨z1,y1⟩:=HR.1.swap.got 1 _ rfl
  obtain ⟨z2,y2⟩:=HR.1.swap.got 2 _ rfl
  obtain ⟨z3,y3⟩:=HR.1.swap.got 3 _ rfl
  obtain ⟨z4,y4⟩:=HR.1.swap.got 4 _ rfl
  cases b1 with
  | false =>
   go_wp2_with fail
   have HP:=Sh.mk (HR.1.put zeroE)
   change bodyPost _ _ _ _ _ (put5 w7 w.heap.size zeroE)
   generalize put5 w7 w.heap.size zeroE=w8 at HP ⊢
   obtain ⟨g0,-⟩:=HP.1.swap.got 0 _ rfl
   obtain ⟨g1,-⟩:=HP.1.swap.got 1 _ rfl
   obtain ⟨g2,-⟩:=HP.1.swap.got 2 _ rfl
   obtain ⟨g3,-⟩:=HP.1.swap.got 3 _ rfl
   obtain ⟨g4,-⟩:=HP.1.swap.got 4 _ rfl
   refine bodyPost_ret (v:=.tuple #[ev zeroE,.bool false]) (by simp [results,Tryz.results83,go_sem,g0,g1,g2,g3,g4]) rfl ⟨by rw [HRE.1];rfl,HP.1.2.2.2.2.2⟩
  | true =>
  cases b2 with
  | false =>
   go_wp2_with fail
   have HP:=Sh.mk (HR.1.put zeroE)
   change bodyPost _ _ _ _ _ (put5 w7 w.heap.size zeroE)
   generalize put5 w7 w.heap.size zeroE=w8 at HP ⊢
   obtain ⟨g0,-⟩:=HP.1.swap.got 0 _ rfl
   obtain ⟨g1,-⟩:=HP.1.swap.got 1 _ rfl
   obtain ⟨g2,-⟩:=HP.1.swap.got 2 _ rfl
   obtain ⟨g3,-⟩:=HP.1.swap.got 3 _ rfl
   obtain ⟨g4,-⟩:=HP.1.swap.got 4 _ rfl
   refine bodyPost_ret (v:=.tuple #[ev zeroE,.bool false]) (by simp [results,Tryz.results83,go_sem,g0,g1,g2,g3,g4]) rfl ⟨by rw [HRE.1];rfl,HP.1.2.2.2.2.2⟩
  | true =>
  cases b3 with
  | false =>
   go_wp2_with fail
   have HP:=Sh.mk (HR.1.put zeroE)
   change bodyPost _ _ _ _ _ (put5 w7 w.heap.size zeroE)
   generalize put5 w7 w.heap.size zeroE=w8 at HP ⊢
   obtain ⟨g0,-⟩:=HP.1.swap.got 0 _ rfl
   obtain ⟨g1,-⟩:=HP.1.swap.got 1 _ rfl
   obtain ⟨g2,-⟩:=HP.1.swap.got 2 _ rfl
   obtain ⟨g3,-⟩:=HP.1.swap.got 3 _ rfl
   obtain ⟨g4,-⟩:=HP.1.swap.got 4 _ rfl
   refine bodyPost_ret (v:=.tuple #[ev zeroE,.bool false]) (by simp [results,Tryz.results83,go_sem,g0,g1,g2,g3,g4]) rfl ⟨by rw [HRE.1];rfl,HP.1.2.2.2.2.2⟩
  | true =>
  cases b4 with
  | false =>
   go_wp2_with fail
   have HP:=Sh.mk (HR.1.put zeroE)
   change bodyPost _ _ _ _ _ (put5 w7 w.heap.size zeroE)
   generalize put5 w7 w.heap.size zeroE=w8 at HP ⊢
   obtain ⟨g0,-⟩:=HP.1.swap.got 0 _ rfl
   obtain ⟨g1,-⟩:=HP.1.swap.got 1 _ rfl
   obtain ⟨g2,-⟩:=HP.1.swap.got 2 _ rfl
   obtain ⟨g3,-⟩:=HP.1.swap.got 3 _ rfl
   obtain ⟨g4,-⟩:=HP.1.swap.got 4 _ rfl
   refine bodyPost_ret (v:=.tuple #[ev zeroE,.bool false]) (by simp [results,Tryz.results83,go_sem,g0,g1,g2,g3,g4]) rfl ⟨by rw [HRE.1];rfl,HP.1.2.2.2.2.2⟩
  | true =>
  have hbt:=HBT.1 rfl
  by_cases hbk:BK=s
  ·obtain ⟨c0,-⟩:=HR.1.got 0 _ rfl
   obtain ⟨c1,-⟩:=HR.1.got 1 _ rfl
   obtain ⟨c2,-⟩:=HR.1.got 2 _ rfl
   obtain ⟨c3,-⟩:=HR.1.got 3 _ rfl
   obtain ⟨c4,-⟩:=HR.1.got 4 _ rfl
   dsimp only at c0 c1 c2 c3 c4
   have HX:=Sh.mk (hbt.symm.trans hbk)
   clear hbt
   subst hbk
   go_wp2_with fail
   have HP:=Sh.mk (HR.1.put ⟨bt BK 0,path,dest,num,bt BK 1⟩)
   change bodyPost _ _ _ _ _ (put5 w7 w.heap.size ⟨bt BK 0,path,dest,num,bt BK 1⟩)
   generalize put5 w7 w.heap.size ⟨bt BK 0,path,dest,num,bt BK 1⟩=w8 at HP ⊢
   obtain ⟨g0,-⟩:=HP.1.swap.got 0 _ rfl
   obtain ⟨g1,-⟩:=HP.1.swap.got 1 _ rfl
   obtain ⟨g2,-⟩:=HP.1.swap.got 2 _ rfl
   obtain ⟨g3,-⟩:=HP.1.swap.got 3 _ rfl
   obtain ⟨g4,-⟩:=HP.1.swap.got 4 _ rfl
   refine bodyPost_ret (v:=.tuple #[ev ⟨bt BK 0,path,dest,num,bt BK 1⟩,.bool true]) (by simp [results,Tryz.results83,go_sem,g0,g1,g2,g3,g4]) rfl ⟨by rw [HRE.1,HX.1];simp,HP.1.2.2.2.2.2⟩
  ·have HX:Sh (decide (editT ⟨bt s 0,path,dest,num,bt s 1⟩=s)=false):=⟨decide_eq_false (fun h=>hbk (hbt.trans h))⟩
   clear hbt
   have hne:(BK.toList==s.toList)=false:=str_neE hbk
   have hne2:(BK.toList != s.toList)=true:=by rw [bne,hne];rfl
   go_wp2_with fail
   have HP:=Sh.mk (HR.1.put zeroE)
   change bodyPost _ _ _ _ _ (put5 w7 w.heap.size zeroE)
   generalize put5 w7 w.heap.size zeroE=w8 at HP ⊢
   obtain ⟨g0,-⟩:=HP.1.swap.got 0 _ rfl
   obtain ⟨g1,-⟩:=HP.1.swap.got 1 _ rfl
   obtain ⟨g2,-⟩:=HP.1.swap.got 2 _ rfl
   obtain ⟨g3,-⟩:=HP.1.swap.got 3 _ rfl
   obtain ⟨g4,-⟩:=HP.1.swap.got 4 _ rfl
   refine bodyPost_ret (v:=.tuple #[ev zeroE,.bool false]) (by simp [results,Tryz.results83,go_sem,g0,g1,g2,g3,g4]) rfl ⟨by rw [HRE.1];rw [HX.1];rfl,HP.1.2.2.2.2.2⟩
end Go.Proofs.YtoglebfiobofoaaGreatDoor
/- EcA: . -/
namespace Go.Proofs.YtoglebfiobofoaaGreatDoor
set_option maxRecDepth 100000
set_option maxHeartbeats 16000000
open Go.RowKit
attribute [local go_sem ↓] Go.wp_at_zero Go.wp_at_succ
variable {s:ByteArray}
def ecs (es:List EM):List Value:=es.flatMap qah
theorem qpf (es:List EM):(ecs es).length=es.length*5:=qco qbv es
theorem qst {w:World} {a:Option Addr} {es:List EM} {lo hi:Nat} (h:RRow w a (ecs es) lo hi) (hp:0<es.length):∃ b off,a=some ⟨b,off,none⟩/\b<w.heap.size/\∀ j (hj:j<es.length),w.cell? ⟨b,off+j*5,none⟩=some (.int .i64 es[j].kind)/\w.cell? ⟨b,off+j*5+1,none⟩=some (.string es[j].path)/\w.cell? ⟨b,off+j*5+2,none⟩=some (.string es[j].dest)/\w.cell? ⟨b,off+j*5+3,none⟩=some (.int .i64 es[j].num)/\w.cell? ⟨b,off+j*5+4,none⟩=some (.int .i64 es[j].who):=by
 obtain ⟨b,off,e,_,_,hb,hc⟩:=h (by rw [qpf];omega)
 refine ⟨b,off,e,hb,fun j hj=>?_⟩
 have hg:∀ i v,(qah es[j])[i]?=some v->w.cell? ⟨b,off+j*5+i,none⟩=some v:=fun i v hv=>by
  have hi:i<5:=by have:=(List.getElem?_eq_some_iff.1 hv).1;rw [qbv] at this;exact this
  have:=hc (j*5+i) v ((flat_get qbv es j hj i hi).trans hv)
  rw [<-Nat.add_assoc] at this
  exact this
 exact ⟨hg 0 _ rfl,hg 1 _ rfl,hg 2 _ rfl,hg 3 _ rfl,hg 4 _ rfl⟩
def isRec (x:ByteArray × Nat):Bool:=(readE x.1).2
def logL (s:ByteArray):List (ByteArray × Nat):=(W.framesOf s).takeWhile isRec
def recE (l:List (ByteArray × Nat)):List EM:=l.map fun x=>(readE x.1).1
def logE (s:ByteArray):List EM:=recE (logL s)
def logAt (s:ByteArray):Nat:=W.endOf (logL s)
theorem qmj (l:List (ByteArray × Nat)):(recE l).length=l.length:=by simp [recE]
theorem qns (l:List (ByteArray × Nat)) (x:ByteArray × Nat):recE (l++[x])=recE l++[(readE x.1).1]:=by simp [recE]
theorem qqg (es:List EM) (e:EM):ecs es++qah e=ecs (es++[e]):=by simp [ecs]
theorem qnt {l:List (ByteArray × Nat)} (h:∀ x ∈ l,isRec x=true):l.takeWhile isRec=l:=by
 induction l with
 | nil=>rfl
 | cons x l ih =>
  rw [List.takeWhile_cons,if_pos (h x (List.mem_cons_self ..)),ih fun y hy=>h y (List.mem_cons_of_mem _ hy)]
theorem qld {pre l:List (ByteArray × Nat)} {x:ByteArray × Nat} (h:∀ x ∈ pre,isRec x=true) (hx:isRec x=false):(pre++x::l).takeWhile isRec=pre:=by
 induction pre with
 | nil=>rw [List.nil_append,List.takeWhile_cons,hx];rfl
 | cons y pre ih =>
  rw [List.cons_append,List.takeWhile_cons,if_pos (h y (List.mem_cons_self ..)),ih fun z hz=>h z (List.mem_cons_of_mem _ hz)]
theorem logL_len (s:ByteArray):(logL s).length<=20000:=Nat.le_trans (List.takeWhile_sublist isRec).length_le (W.framesOf_len s)
theorem qqh (s:ByteArray):(logE s).length<=20000:=by unfold logE;rw [qmj];exact logL_len s
theorem frameB_size {a:Nat} {r:ByteArray} {b:Nat} (h:W.frameAt s a=some (r,b)):a+(qdf r).size=b:=by
 have hb:=W.frameAt_bounds h
 unfold W.frameAt at h
 split at h
 ·cases h
 ·rename_i n p hr
  split at h
  ·rename_i hc
   obtain ⟨h1,h2,h3,h4⟩:=hc
   simp at h
   obtain ⟨rfl,rfl⟩:=h
   rw [(W.frame_bytes hr h3).2 h4]
   simp
   omega
  ·cases h
def endD (a:Nat) (l:List (ByteArray × Nat)):Nat:=(l.getLast?.map (·.2)).getD a
theorem qjl (s:ByteArray):∀ (f a k:Nat) (h:k<(W.framesF s f a).length),endD a ((W.framesF s f a).take k)+(qdf ((W.framesF s f a)[k]).1).size=((W.framesF s f a)[k]).2
 | 0,a,k,h=>by simp [W.framesF] at h
 | f+1,a,k,h=>by
  by_cases ha:a<s.size
  ·cases hf:W.frameAt s a with
   | none=>rw [W.framesF,if_pos ha,hf] at h;simp at h
   | some x =>
    obtain ⟨r,b⟩:=x
    have e:W.framesF s (f+1) a=(r,b)::W.framesF s f b:=by rw [W.framesF,if_pos ha,hf]
    simp only [e] at h ⊢
    cases k with
    | zero=>simpa [endD] using frameB_size hf
    | succ k =>
     have:=qjl s f b k (by simpa using h)
     simp only [List.take_succ_cons,List.getElem_cons_succ]
     rw [<-this]
     congr 1
     unfold endD
     cases ht:(W.framesF s f b).take k with
     | nil=>rfl
     | cons y l=>simp [List.getLast?_cons]
  ·rw [W.framesF,if_neg ha] at h;simp at h
theorem frames_next (s:ByteArray) (k:Nat) (h:k<(W.framesOf s).length):W.endOf ((W.framesOf s).take k)+(qdf ((W.framesOf s)[k]).1).size=((W.framesOf s)[k]).2:=by
 by_cases hs:20000<s.size
 ·have e:W.framesOf s=[]:=by unfold W.framesOf;rw [if_pos hs]
  rw [e] at h
  simp at h
 ·have e:W.framesOf s=W.framesF s (s.size - 0) 0:=by unfold W.framesOf;rw [if_neg hs];rfl
  simp only [e] at h ⊢
  exact qjl s _ 0 k h
theorem qle (s:ByteArray):∀ (f a:Nat) (x:ByteArray × Nat),x ∈ W.framesF s f a->1<=x.1.size/\x.1.size<=9000/\x.2<=s.size
 | 0,a,x,h=>by simp [W.framesF] at h
 | f+1,a,x,h=>by
  rw [W.framesF] at h
  split at h
  ·cases hf:W.frameAt s a with
   | none=>rw [hf] at h;simp at h
   | some y =>
    obtain ⟨r,b⟩:=y
    rw [hf] at h
    have hb:=W.frameAt_bounds hf
    simp only [List.mem_cons] at h
    rcases h with rfl | h
    ·exact ⟨hb.2.2.1,hb.2.2.2,hb.2.1⟩
    ·exact qle s f b x h
  ·simp at h
theorem qfa {x:ByteArray × Nat} (h:x ∈ W.framesOf s):1<=x.1.size/\x.1.size<=9000/\x.2<=s.size:=by
 unfold W.framesOf at h
 split at h
 ·cases h
 ·exact qle s _ 0 x h
theorem qmk (s:ByteArray):logAt s<=s.size:=by
 unfold logAt W.endOf
 cases h:(logL s).getLast? with
 | none=>exact Nat.zero_le _
 | some x =>
  have hm:x ∈ logL s:=List.mem_of_getLast? h
  exact (qfa ((List.takeWhile_sublist isRec).subset hm)).2.2
def qpk (s:ByteArray) (w:World) (e:Ending) (w':World):Prop:=
 ∃ v,e = .returned (.tuple #[v,.int .i64 (logAt s:Nat)])/\w'.ownsRow w.heap.size 33 5 v (logE s).length (ecs (logE s))/\Below w.heap.size w w'
theorem qnu:(Tryz.prog.info? 33).map (fun i=>(i.zero,i.size,i.bytes))=some (some (.agg #[.int .i64 0,.string ⟨#[]⟩,.string ⟨#[]⟩,.int .i64 0,.int .i64 0]),5,56):=by kernel_rfl
end Go.Proofs.YtoglebfiobofoaaGreatDoor
/- OpenM: . -/
namespace Go.Proofs.YtoglebfiobofoaaGreatDoor
set_option maxRecDepth 100000
set_option maxHeartbeats 16000000
open Go.RowKit Go.Deep Go.ChangeShapes Go.WideShapes
end Go.Proofs.YtoglebfiobofoaaGreatDoor
/- EdC: . -/
namespace Go.Proofs.YtoglebfiobofoaaGreatDoor
set_option maxRecDepth 100000
set_option maxHeartbeats 16000000
open Go.RowKit Go.Deep Go.ChangeShapes Go.WideShapes
attribute [local go_sem ↓] Go.wp_at_zero Go.wp_at_succ
end Go.Proofs.YtoglebfiobofoaaGreatDoor
/- PaI: . -/
namespace Go.Proofs.YtoglebfiobofoaaGreatDoor
set_option maxRecDepth 100000
set_option maxHeartbeats 16000000
open Go.RowKit
open Go.PlainAid (bt)
attribute [local go_sem ↓] Go.wp_at_zero Go.wp_at_succ
variable {p s:ByteArray} {done:List ByteArray} {xs:List Value} {B bg e i k n pos size:Nat} {v:Value} {w:World}
theorem get_bt9 (s:ByteArray) (j:Nat) (h:j<s.size):bt s j=((s.get! j).toNat:Int):=by
 unfold bt
 rw [dif_pos h]
 simp [ByteArray.get!,getElem!_pos,h]
 rfl
theorem decode_far (s:ByteArray) (pos:Nat) (h:pos<s.size) (ha:128<=bt s pos):pos+(Utf8.decode s pos).2<=s.size/\(Utf8.decode s pos).2<=4/\∀ d,d<(Utf8.decode s pos).2->128<=bt s (pos+d):=by
 have hg:=fun d (q:pos+d<s.size)=>get_bt9 s (pos+d) q
 have g0:=hg 0 (by omega)
 simp only [Nat.add_zero] at g0
 have g1:=hg 1
 have g2:=hg 2
 have g3:=hg 3
 clear hg
 have hn:¬ (s.get! (pos+0)).toNat<128:=by simp only [Nat.add_zero];omega
 simp only [Utf8.decode,hn,if_false]
 have hone:pos+1<=s.size/\1<=4/\∀ d,d<1->128<=bt s (pos+d):=⟨by omega,by omega,fun d hd=>by
  have:d=0:=by omega
  subst this;exact ha⟩
 split
 ·rename_i q
  simp only [Bool.and_eq_true,decide_eq_true_eq,beq_iff_eq] at q
  split
  ·refine ⟨by simp only;omega,by simp only;omega,fun d hd=>?_⟩
   have h1:=g1 q.2.1
   rcases (show d=0\/d=1 from by simp only at hd;omega) with rfl | rfl
   ·exact ha
   ·rw [h1];omega
  ·exact hone
 ·split
  ·rename_i q
   simp only [Bool.and_eq_true,decide_eq_true_eq,beq_iff_eq] at q
   split
   ·refine ⟨by simp only;omega,by simp only;omega,fun d hd=>?_⟩
    have h1:=g1 q.1.2.1
    have h2:=g2 q.2.1
    rcases (show d=0\/d=1\/d=2 from by simp only at hd;omega) with rfl | rfl | rfl
    ·exact ha
    ·rw [h1];omega
    ·rw [h2];omega
   ·exact hone
  ·split
   ·rename_i q
    simp only [Bool.and_eq_true,decide_eq_true_eq,beq_iff_eq] at q
    split
    ·refine ⟨by simp only;omega,by simp only;omega,fun d hd=>?_⟩
     have h1:=g1 q.1.1.2.1
     have h2:=g2 q.1.2.1
     have h3:=g3 q.2.1
     rcases (show d=0\/d=1\/d=2\/d=3 from by simp only at hd;omega) with rfl | rfl | rfl | rfl
     ·exact ha
     ·rw [h1];omega
     ·rw [h2];omega
     ·rw [h3];omega
    ·exact hone
   ·exact hone
theorem qqj (s:ByteArray) (pos:Nat) (h:pos<s.size) (ha:bt s pos<128):((Utf8.decode s pos).1:Int)=bt s pos/\(Utf8.decode s pos).2=1:=by
 have e:bt s pos=((s[pos]'h).toNat:Int):=by unfold bt;rw [dif_pos h]
 rw [decode_ascii s pos h (by omega),e]
 exact ⟨rfl,rfl⟩
theorem qnx (s:ByteArray) (pos:Nat) (h:pos<s.size) (ha:128<=bt s pos):(128:Int)<=((Utf8.decode s pos).1:Int)/\1<=(Utf8.decode s pos).2:=by
 have e:bt s pos=((s[pos]'h).toNat:Int):=by unfold bt;rw [dif_pos h]
 have:=decode_high s pos h (by omega)
 omega
theorem qhy (r:Int) (b:Bool) (hb:b=true↔nameN r) (w:World):Calls Tryz.prog 189 #[.int .i32 r] w fun e w'=>e = .returned (.bool b)/\w'=w:=by
 have HB:=Sh.mk hb
 clear hb
 unfold nameN at HB
 by_cases c1:97<=r
 ·by_cases c2:r<=122
  ·have hb:b=true:=HB.1.2 (by omega)
   subst hb
   go_enter Tryz.func189,Tryz.ntmps189
   go_wp2_with fail
   go_ret
   exact ⟨rfl,rfl⟩
  ·have c3:48<=r:=by omega
   have c4:¬ r<=57:=by omega
   have hb:b=false:=by cases b with | false=>rfl | true=>exact absurd (HB.1.1 rfl) (by omega)
   subst hb
   go_enter Tryz.func189,Tryz.ntmps189
   go_wp2_with fail
   go_ret
   exact ⟨rfl,rfl⟩
 ·by_cases c3:48<=r
  ·by_cases c4:r<=57
   ·have hb:b=true:=HB.1.2 (by omega)
    subst hb
    go_enter Tryz.func189,Tryz.ntmps189
    go_wp2_with fail
    go_ret
    exact ⟨rfl,rfl⟩
   ·have hb:b=false:=by cases b with | false=>rfl | true=>exact absurd (HB.1.1 rfl) (by omega)
    subst hb
    go_enter Tryz.func189,Tryz.ntmps189
    go_wp2_with fail
    go_ret
    exact ⟨rfl,rfl⟩
  ·have hb:b=false:=by cases b with | false=>rfl | true=>exact absurd (HB.1.1 rfl) (by omega)
   subst hb
   go_enter Tryz.func189,Tryz.ntmps189
   go_wp2_with fail
   go_ret
   exact ⟨rfl,rfl⟩
theorem qho (w:World) (s:ByteArray) (pos:Nat):Below w.heap.size w (w.iter s pos):=(Below.refl _ _).alloc (Nat.le_refl _) _
theorem qlf (s:ByteArray) (w:World) (hs:s.size<=1048576):Calls Tryz.prog 178 #[.string s] w fun e w'=>e = .returned (.bool (nameB s))/\Below w.heap.size w w':=by
 obtain ⟨r,hre⟩:∃ r,r=nameB s:=⟨_,rfl⟩
 have HRE:=Sh.mk hre
 rw [<-hre]
 clear hre
 have hnot (q:¬ (1<=s.size/\s.size<=8)):r=false:=by
  rw [HRE.1]
  cases e:nameB s with
  | false=>rfl
  | true=>exact absurd ((qeb s).1 e).2 q
 by_cases h1:s.size<1
 ·have hr:=hnot (by omega)
  subst hr
  have h1':(s.size:Int)<1:=by omega
  go_enter Tryz.func178,Tryz.ntmps178
  go_wp2_with fail
  go_ret
  exact ⟨rfl,Below.refl _ _⟩
 have h1':¬ (s.size:Int)<1:=by omega
 by_cases h8:8<s.size
 ·have hr:=hnot (by omega)
  subst hr
  have h8':(8:Int)<(s.size:Int):=by omega
  go_enter Tryz.func178,Tryz.ntmps178
  go_wp2_with fail
  go_ret
  exact ⟨rfl,Below.refl _ _⟩
 have h8':¬ (8:Int)<(s.size:Int):=by omega
 clear hnot
 go_enter Tryz.func178,Tryz.ntmps178
 go_wp2_with fail
 go_loopw [2] (fun v wr=>∃ (pos:Nat),v = .bool false/\wr=w.iter s pos/\pos<=s.size/\Sh (∀ j,j<pos->nameN (bt s j))) (fun _ wr=>s.size - wr.iterPos w.heap.size)
 case atStart=>exact ⟨0,rfl,rfl,Nat.zero_le _,⟨fun j hj=>by omega⟩⟩
 case round =>
  obtain ⟨pos,rfl,rfl,hp,hall⟩:=hrel
  by_cases hlt:pos<s.size
  ·have hnx:∀ ty,(Instr.next (.pointer (some ⟨w.heap.size,0,none⟩)) true ty).run Tryz.prog (w.iter s pos)=_:=fun ty=>run_next_any w s pos ty hlt
   have hlow:=qqj s pos hlt
   have hhigh:=qnx s pos hlt
   generalize Utf8.decode s pos=D at *
   obtain ⟨rn,wd⟩:=D
   simp only at hlow hhigh hnx
   by_cases hn:nameN (bt s pos)
   ·have hl:bt s pos<128:=by unfold nameN at hn;omega
    obtain ⟨e1,rfl⟩:=hlow hl
    have HN:=Sh.mk (fun W=>qhy (rn:Int) true (by rw [e1];exact ⟨fun _=>hn,fun _=>rfl⟩) W)
    have HA:Sh (∀ j,j<pos+1->nameN (bt s j)):=⟨fun j hj=>by
     by_cases e:j=pos
     ·subst e;exact hn
     ·exact hall.1 j (by omega)⟩
    clear hn hlow hhigh e1 hl hall
    go_wp2_with fail
    refine (HN.1 _).mono ?_
    rintro e w1 ⟨rfl,hw⟩
    subst hw
    go_wp2_with fail
    go_roundw
    case rel=>exact ⟨pos+1,rfl,rfl,by omega,HA⟩
    case measure=>simp;omega
   ·have hr:r=false:=HRE.1.trans (qql hlt hn)
    have HN:=Sh.mk (fun W=>qhy (rn:Int) false (by
     refine ⟨fun q=>(Bool.noConfusion q),fun q=>?_⟩
     exfalso
     by_cases hl:bt s pos<128
     ·rw [(hlow hl).1] at q;exact hn q
     ·have:=(hhigh (by omega)).1
      unfold nameN at q
      omega) W)
    subst hr
    clear hn hlow hhigh hall
    go_wp2_with fail
    refine (HN.1 _).mono ?_
    rintro e w1 ⟨rfl,hw⟩
    subst hw
    go_wp2_with fail
    go_ret
    exact ⟨rfl,qho _ _ _⟩
  ·have hnx:∀ ty,(Instr.next (.pointer (some ⟨w.heap.size,0,none⟩)) true ty).run Tryz.prog (w.iter s pos)=_:=fun ty=>run_next_end w s pos ty hlt
   have hr:r=true:=HRE.1.trans ((qeb s).2 ⟨fun j hj=>hall.1 j (by omega),by omega,by omega⟩)
   subst hr
   go_wp2_with fail
   go_ret
   exact ⟨rfl,qho _ _ _⟩
structure BwRel (p:ByteArray) (i bg:Nat) (done:List ByteArray):Prop where
 le:bg<=i
 clean:∀ j,bg<=j->j<i->bt p j ≠ 47
 sofar:(segs (lb p)).map ba=done++(segs ((lb p).drop bg)).map ba
theorem BwRel.start:BwRel p 0 0 []:=⟨Nat.le_refl _,fun j h1 h2=>by omega,rfl⟩
theorem BwRel.step {i bg wd:Nat} (h:BwRel p i bg done) (hc:∀ d,d<wd->bt p (i+d) ≠ 47):BwRel p (i+wd) bg done:=
 ⟨by have:=h.le;omega,fun j h1 h2=>by
  by_cases e:j<i
  ·exact h.clean j h1 e
  ·have:=hc (j - i) (by omega)
   rwa [show i+(j - i)=j from by omega] at this,h.sofar⟩
theorem BwRel.cut (h:BwRel p i bg done) (hi:i<p.size) (hc:bt p i=47):BwRel p (i+1) (i+1) (done++[p.extract bg i]):=by
 refine ⟨Nat.le_refl _,fun j h1 h2=>by omega,?_⟩
 have hl:(lb p).length=p.size:=rfl
 have e:(lb p).drop bg=((lb p).drop bg).take (i - bg)++47::(lb p).drop (i+1):=by
  have h1:((lb p).drop bg).drop (i - bg)=47::(lb p).drop (i+1):=by
   rw [List.drop_drop,show bg+(i - bg)=i from by have:=h.le;omega,List.drop_eq_getElem_cons (by omega)]
   congr 1
   have:=bt_at hi
   rw [hc] at this
   have h2:((lb p)[i]'(by omega)).toNat=47:=by omega
   exact UInt8.toNat_inj.1 h2
  rw [<-h1,List.take_append_drop]
 rw [h.sofar,e,qml _ _ (qfq (by omega) h.clean),List.map_cons,List.append_assoc]
 congr 1
 rw [<-ext_list,ba_lb];rfl
theorem BwRel.fin (h:BwRel p i bg done) (hi:i=p.size):(segs (lb p)).map ba=done++[p.extract bg p.size]:=by
 have hl:(lb p).length=p.size:=rfl
 subst hi
 have e:(lb p).drop bg=((lb p).drop bg).take (p.size - bg):=by rw [List.take_of_length_le (by rw [List.length_drop];omega)]
 rw [h.sofar,e,qjp _ (qfq (by omega) h.clean),List.map_cons,List.map_nil,<-ext_list,ba_lb]
theorem slice_from (s:ByteArray) (a:Nat) (h:a<=s.size) (w:World):(Instr.slice 9 (.string s) (some (.int .i64 a)) none none).run Tryz.prog w = .ok (.string (s.extract a s.size)) w:=by
 rw [run_slice_string_from_if w 9 s .i64 a Tryz.underlying9,if_pos ⟨by omega,by omega⟩]
 rfl
theorem own_iter9 (h:w.ownsRow B e size v n xs) (hk:w.heap[k]?=some (.stringIter s pos)) (pos':Nat):(w.iterAt k s pos').ownsRow B e size v n xs:=by
 refine ⟨h.1,h.2.imp id fun ⟨g,cap,cur,hv,hb,hg,rest⟩=>⟨g,cap,cur,hv,hb,?_,rest⟩⟩
 rw [Lib.iterAt_other _ _ _ _ _ (fun e=>by subst e;rw [hk] at hg;cases hg)]
 exact hg
theorem own_ne9 (h:w.ownsRow B e size v n xs) (hk:w.heap[k]?=some (.stringIter s pos)):some k ≠ v.ownBlock:=by
 rcases h.2 with ⟨rfl,_⟩ | ⟨g,cap,cur,rfl,hb,hg,rest⟩
 ·exact fun e=>nomatch e
 ·intro e
  cases e
  rw [hk] at hg
  cases hg
theorem implBetween (p:ByteArray) (w:World) (hs:p.size<=1048576):Calls Tryz.prog 180 #[.string p] w fun e w'=>∃ v,e = .returned v/\w'.ownsRow w.heap.size 9 1 v (segs (lb p)).length (tv ((segs (lb p)).map ba))/\Below w.heap.size w w':=by
 obtain ⟨i0,hi,hz0,hz1,hz2⟩:=info_parts qol
 have hb:=Go.PlainAid.get_bt p
 go_enter Tryz.func180,Tryz.ntmps180
 go_wp2_with fail
 go_loopw [3,4] (fun v bg wr=>∃ (pos g:Nat) (done:List ByteArray) (vv:Value),vv=v/\bg = .int .i64 g/\wr.heap[w.heap.size]?=some (.stringIter p pos)/\pos<=p.size/\g<=pos/\done.length<=pos/\Sh (BwRel p pos g done)/\Sh (wr.ownsRow w.heap.size 9 1 vv done.length (tv done))/\Sh (Below w.heap.size w wr)) (fun _ _ wr=>p.size - wr.iterPos w.heap.size)
 case atStart=>exact ⟨0,0,[],_,rfl,rfl,World.iter_heap _ _ _,Nat.zero_le _,Nat.le_refl _,by simp,⟨BwRel.start⟩,⟨⟨rfl,.inl ⟨rfl,rfl⟩⟩⟩,⟨qho _ _ _⟩⟩
 case round =>
  obtain ⟨pos,g,done,v,rfl,rfl,hit,hp,hg,hd,hrl,hown,hbl⟩:=hrel
  have hB:=hbl.1.size
  have hB1:w.heap.size<wr.heap.size:=(Array.getElem?_eq_some_iff.1 hit).1
  by_cases hlt:pos<p.size
  ·have hlow:=qqj p pos hlt
   have hhigh:=qnx p pos hlt
   have hfar:=decode_far p pos hlt
   obtain ⟨rn,wd,hD⟩:∃ rn wd,Utf8.decode p pos=(rn,wd):=⟨_,_,rfl⟩
   have hnx:∀ ty,(Instr.next (.pointer (some ⟨w.heap.size,0,none⟩)) true ty).run Tryz.prog wr=_:=fun ty=>Lib.run_next_any_at wr w.heap.size p pos ty hit hlt
   rw [hD] at hlow hhigh hfar hnx
   simp only at hlow hhigh hfar hnx
   generalize (rn:Int)=R at hlow hhigh hnx
   have hitp:=iterPos_of hit
   have hit1:=Lib.iterAt_heap wr w.heap.size p pos (pos+wd) hit
   have hown1:=own_iter9 hown.1 hit (pos+wd)
   have hbl1:=Lib.below_iterAt hbl.1 (Nat.le_refl _) p (pos+wd)
   have hsz1:w.heap.size<(wr.iterAt w.heap.size p (pos+wd)).heap.size:=by rw [Lib.iterAt_size];exact hB1
   generalize wr.iterAt w.heap.size p (pos+wd)=W1 at *
   clear hD hbl hown hit
   by_cases hc:bt p pos=47
   ·obtain ⟨e1,rfl⟩:=hlow (by omega)
    have hrn:R=47:=by omega
    have hrn':(R==47)=true:=by rw [hrn];rfl
    have HR:=Sh.mk (hrl.1.cut hlt hc)
    have hsl:=qca p g pos hg (by omega)
    have hne:=own_ne9 hown1 hit1
    have HB1:=Sh.mk hbl1
    generalize p.extract g pos=x at *
    clear hlow hhigh hfar hrl hc e1 hrn hbl1
    go_wp2_with (at_builtin;refine wpList_append_own _ rfl _ _ 104 rfl w.heap.size 9 i0 (.string ⟨#[]⟩) 1 16 Tryz.underlying104 hi hz0 hz1 hz2 rfl (by decide) _ _ _ rfl (hown1.alloc _) ⟨W1.heap.size,0,none⟩ 1 1 [.string x] rfl rfl (cell_one_new _ _ _) ?c2 ?c3 ?c4 ?c5 ?_)
    case c2=>first | rfl | (intro u hu;simp at hu;subst hu;rfl)
    case c3=>unfold maxLen;omega
    case c4=>omega
    case c5=>first | omega | (simp;omega)
    intro v' w4 hown' hgrow _
    rw [qkh] at hown'
    have Q1:Sh (w4.ownsRow w.heap.size 9 1 v' (done++[x]).length (tv (done++[x]))):=⟨by rw [List.length_append,List.length_singleton];exact hown'⟩
    have Q2:=Sh.mk ((HB1.1.alloc (by omega) (.cells #[.string x] 9)).grown hgrow (by simp;omega) (fun j hj=>(hown1.lt j hj).1))
    have hit4:w4.heap[w.heap.size]?=some (.stringIter p (pos+1)):=by
     rw [hgrow.block _ (by simp;omega) hne,Below.heap_alloc _ _ _ (by omega)]
     exact hit1
    clear hown' hgrow hown1 HB1
    go_wp2_with fail
    go_roundw
    case rel=>exact ⟨pos+1,pos+1,_,v',rfl,by go_num,hit4,by omega,Nat.le_refl _,by rw [List.length_append,List.length_singleton];omega,HR,Q1,Q2⟩
    case measure=>rw [hitp,iterPos_of hit4];omega
   ·have hrn:¬ R=47/\pos+wd<=p.size/\1<=wd/\∀ d,d<wd->bt p (pos+d) ≠ 47:=by
     by_cases hl:bt p pos<128
     ·obtain ⟨e1,rfl⟩:=hlow hl
      refine ⟨by omega,by omega,by omega,fun d hd=>?_⟩
      have:d=0:=by omega
      subst this;exact hc
     ·have h1:=hhigh (by omega)
      have h2:=hfar (by omega)
      refine ⟨by omega,h2.1,h1.2,fun d hd=>?_⟩
      have:=h2.2.2 d hd
      omega
    obtain ⟨h1,h2,h3,h4⟩:=hrn
    have hrn':(R==47)=false:=by rw [beq_eq_false_iff_ne];exact h1
    have HR:=Sh.mk (hrl.1.step h4)
    clear hlow hhigh hfar hrl hc h4
    go_wp2_with fail
    go_roundw
    case rel=>exact ⟨pos+wd,g,done,v,rfl,rfl,hit1,h2,by omega,by omega,HR,⟨hown1⟩,⟨hbl1⟩⟩
    case measure=>rw [hitp,iterPos_of hit1];omega
  ·have hnx:∀ ty,(Instr.next (.pointer (some ⟨w.heap.size,0,none⟩)) true ty).run Tryz.prog wr=_:=fun ty=>Lib.run_next_end_at wr w.heap.size p pos ty hit hlt
   have hfin:=hrl.1.fin (by omega)
   have hsl:=slice_from p g (by omega)
   have hln:(segs (lb p)).length=done.length+1:=by
    have:=congrArg List.length hfin
    rwa [List.length_map,List.length_append,List.length_singleton] at this
   have HL:=Sh.mk hln
   have HF:=Sh.mk hfin
   have hown1:=hown.1
   generalize p.extract g p.size=x at *
   clear hrl hfin hln hown
   go_wp2_with (at_builtin;refine wpList_append_own _ rfl _ _ 104 rfl w.heap.size 9 i0 (.string ⟨#[]⟩) 1 16 Tryz.underlying104 hi hz0 hz1 hz2 rfl (by decide) _ _ _ rfl (hown1.alloc _) ⟨wr.heap.size,0,none⟩ 1 1 [.string x] rfl rfl (cell_one_new _ _ _) ?c2 ?c3 ?c4 ?c5 ?_)
   case c2=>first | rfl | (intro u hu;simp at hu;subst hu;rfl)
   case c3=>unfold maxLen;omega
   case c4=>omega
   case c5=>first | omega | (simp;omega)
   intro v' w4 hown' hgrow _
   rw [qkh] at hown'
   have Q2:=Sh.mk ((hbl.1.alloc hB (.cells #[.string x] 9)).grown hgrow (by simp;omega) (fun j hj=>(hown1.lt j hj).1))
   have Q1:=Sh.mk hown'
   clear hown' hgrow hown1
   go_wp2_with fail
   go_ret
   exact ⟨_,rfl,by rw [HL.1,HF.1];exact Q1.1,Q2.1⟩
end Go.Proofs.YtoglebfiobofoaaGreatDoor
/- NestB: . -/
namespace Go.Proofs.YtoglebfiobofoaaGreatDoor
set_option maxRecDepth 100000
set_option maxHeartbeats 16000000
open Go.RowKit
attribute [local go_sem ↓] Go.wp_at_zero Go.wp_at_succ
variable {L xs:List ByteArray} {g hi lo off:Nat} {v:Value} {w w' wr:World}
structure TI (w wr:World) (ss:List SR) (ts:List SR):Prop where
 rweq:rws ts=rws (ss.take ts.length)
 out:WCells wr w.heap.size (svs ts++List.replicate (ss.length - ts.length) (.slice none 0 0))
 rows:∀ s ∈ ts,∃ b,s.loc=some ⟨b,0,none⟩/\w.heap.size<=b/\b<wr.heap.size/\b ≠ w.heap.size/\WCells wr b (ics s.row)/\s.row.length<=s.cap
 apart:(ts.map SR.loc).Nodup
 bel:Below w.heap.size w wr
theorem set_mid (A B:List Value) (x y:Value) (k:Nat) (h:A.length=k):(A++x::B).set k y=A++y::B:=by
 subst h
 rw [List.set_append_right _ _ (Nat.le_refl _)]
 simp
theorem TI.next {w wr w1:World} {ss ts:List SR} {g1:Nat} {row:List Int} {n:Nat} (h:TI w wr ss ts) (hk:ts.length<ss.length) (hrow:(ss[ts.length]).row=row) (hn:n=row.length) (hw:w.heap.size<wr.heap.size)
  (hg1:wr.heap.size<=g1) (hc:WCells w1 g1 (ics row)) (hb:Below wr.heap.size wr w1):TI w (w1.setCell ⟨w.heap.size,ts.length,none⟩ (.slice (some ⟨g1,0,none⟩) n n)) ss (ts++[SR.mk (some ⟨g1,0,none⟩) row row.length]):=by
 subst hn
 have hne:g1 ≠ w.heap.size:=by omega
 have hsz:(w1.setCell ⟨w.heap.size,ts.length,none⟩ (.slice (some ⟨g1,0,none⟩) row.length row.length)).heap.size=w1.heap.size:=by simp [World.setCell]
 have hgs:w1.grownBy (w1.setCell ⟨w.heap.size,ts.length,none⟩ (.slice (some ⟨g1,0,none⟩) row.length row.length)) (some w.heap.size):=qak _ _ _ _
 refine ⟨?_,?_,?_,?_,?_⟩
 ·rw [qqi,h.rweq,List.length_append,List.length_singleton,List.take_succ_eq_append_getElem hk,qqi,hrow]
 ·have o:=(h.out.below hb h.out.1).set ts.length (.slice (some ⟨g1,0,none⟩) row.length row.length) (by rw [List.length_append,qpl,List.length_replicate];omega)
  obtain ⟨m,hm⟩:∃ m,ss.length - ts.length=m+1:=⟨ss.length - ts.length - 1,by omega⟩
  rw [hm,List.replicate_succ,set_mid _ _ _ _ _ (qpl ts)] at o
  have e:svs (ts++[SR.mk (some ⟨g1,0,none⟩) row row.length])++List.replicate (ss.length - (ts++[SR.mk (some ⟨g1,0,none⟩) row row.length]).length) (.slice none 0 0)=svs ts++.slice (some ⟨g1,0,none⟩) row.length row.length::List.replicate m (.slice none 0 0):=by
   rw [List.length_append,List.length_singleton,show ss.length - (ts.length+1)=m by omega]
   simp [svs,srv]
  rw [e]
  exact o
 ·intro s hs
  rcases List.mem_append.1 hs with h1 | h1
  ·obtain ⟨b,e,q1,q2,q3,q4,q5⟩:=h.rows s h1
   exact ⟨b,e,q1,by rw [hsz];exact Nat.lt_of_lt_of_le q2 hb.size,q3,(q4.below hb q4.1).apart hgs q3,q5⟩
  ·simp at h1
   subst h1
   exact ⟨g1,rfl,by omega,by rw [hsz];exact hc.1,hne,hc.apart hgs hne,Nat.le_refl _⟩
 ·rw [List.map_append,List.nodup_append]
  refine ⟨h.apart,by simp,fun l hl l' hl'=>?_⟩
  obtain ⟨s,hs,rfl⟩:=List.mem_map.1 hl
  simp only [List.map_cons,List.map_nil,List.mem_singleton] at hl'
  subst hl'
  obtain ⟨b,e,_,q2,_⟩:=h.rows s hs
  rw [e]
  intro e2
  have e4:b=g1:=congrArg Addr.block (Option.some.inj e2)
  omega
 ·exact (h.bel.trans (hb.mono h.bel.size)).setCell (p:=⟨w.heap.size,ts.length,none⟩) (Nat.le_refl _) _
theorem TI.fin {ss ts:List SR} (h:TI w wr ss ts) (hl:ts.length=ss.length):rws ts=rws ss/\MW wr w.heap.size ts w.heap.size wr.heap.size:=by
 refine ⟨by rw [h.rweq,hl,List.take_of_length_le (Nat.le_refl _)],?_,Nat.le_refl _,h.out.1,h.rows,h.apart⟩
 have:=h.out
 rwa [hl,Nat.sub_self,List.replicate_zero,List.append_nil] at this

def OCells (w:World) (g off:Nat) (xs:List ByteArray):Prop:=
 g<w.heap.size/\∀ j,j<xs.length->w.cell? ⟨g,off+j,none⟩=some (.string (xs.getD j ⟨#[]⟩))/\w.frozen? ⟨g,off+j,none⟩=false
theorem OCells.below {g off B:Nat} (h:OCells w g off xs) (hb:Below B w w') (hg:g<B):OCells w' g off xs:=
 ⟨Nat.lt_of_lt_of_le h.1 hb.size,fun j hj=>⟨(hb.cell (p:=⟨g,off+j,none⟩) hg).trans (h.2 j hj).1,(hb.frozen (p:=⟨g,off+j,none⟩) hg).trans (h.2 j hj).2⟩⟩
theorem OCells.block (h:OCells w g off xs) (hs:w.heap.size<=w'.heap.size) (hb:w'.heap[g]?=w.heap[g]?):OCells w' g off xs:=
 ⟨Nat.lt_of_lt_of_le h.1 hs,fun j hj=>⟨(World.cell?_of_block (a:=⟨g,off+j,none⟩) hb).trans (h.2 j hj).1,(World.frozen?_of_block (a:=⟨g,off+j,none⟩) hb).trans (h.2 j hj).2⟩⟩
theorem OCells.set (h:OCells w g off xs) (i:Nat) (x:ByteArray) (hi:i<xs.length):OCells (w.setCell ⟨g,off+i,none⟩ (.string x)) g off (xs.set i x):=by
 refine ⟨by have:=h.1;simpa [World.setCell] using this,fun j hj=>?_⟩
 rw [List.length_set] at hj
 refine ⟨?_,(World.frozen?_setCell _ _ _ _).trans (h.2 j hj).2⟩
 by_cases e:j=i
 ·subst e
  rw [World.cell?_setCell_same _ _ _ (h.2 j hj).1]
  simp [List.getD,hi]
 ·rw [World.cell?_setCell_other _ _ _ _ (by first | (simp;done) | (simp;omega)),(h.2 j hj).1]
  simp [List.getD,Ne.symm e]
def OAns (w:World) (v:Value) (L:List ByteArray) (lo hi:Nat):Prop:=∃ (a:Option Addr) (cap:Nat),v = .slice a L.length cap/\L.length<=cap/\(L=[]\/∃ g off,a=some ⟨g,off,none⟩/\lo<=g/\g<hi/\OCells w g off L)
theorem OAns.see (h:OAns w v L lo hi):SSee w v L lo hi:=by
 obtain ⟨a,cap,e,_,h1⟩:=h
 refine ⟨a,cap,e,?_⟩
 rcases h1 with rfl | ⟨g,off,rfl,q1,q2,hm⟩
 ·intro h;simp [tv] at h
 ·intro _
  refine ⟨g,off,rfl,q1,q2,hm.1,fun i v hv=>?_⟩
  have hi:i<L.length:=by
   have:=(List.getElem?_eq_some_iff.1 hv).1
   rwa [qlw] at this
  rw [qkb L i hi] at hv
  cases hv
  exact (hm.2 i hi).1
theorem SAns.oans (h:SAns w v L lo hi):OAns w v L lo hi:=by
 obtain ⟨a,cap,e,hc,h1⟩:=h
 refine ⟨a,cap,e,hc,?_⟩
 rcases h1 with rfl | ⟨g,rfl,q1,q2,hm⟩
 ·exact .inl rfl
 ·refine .inr ⟨g,0,rfl,q1,q2,hm.1,fun j hj=>?_⟩
  rw [Nat.zero_add]
  exact hm.2 j _ (qkb L j hj)
theorem OAns.form (h:OAns w v L lo hi):∃ a cap,v = .slice a L.length cap:=by
 obtain ⟨a,cap,e,_⟩:=h
 exact ⟨a,cap,e⟩
theorem OAns.turned {lo hi lo' hi':Nat} (h:OAns w v L lo hi) (t:Turned w w' lo' hi') (hd:hi<=lo'\/hi'<=lo):OAns w' v L lo hi:=by
 obtain ⟨a,cap,e,hc,h1⟩:=h
 refine ⟨a,cap,e,hc,?_⟩
 rcases h1 with rfl | ⟨g,off,rfl,q1,q2,hm⟩
 ·exact .inl rfl
 ·exact .inr ⟨g,off,rfl,q1,q2,hm.block t.size (t.block g hm.1 (by omega))⟩
theorem OAns.below (h:OAns w v L lo hi) (hb:Below w.heap.size w w'):OAns w' v L lo hi:=by
 obtain ⟨a,cap,e,hc,h1⟩:=h
 refine ⟨a,cap,e,hc,?_⟩
 rcases h1 with rfl | ⟨g,off,rfl,q1,q2,hm⟩
 ·exact .inl rfl
 ·exact .inr ⟨g,off,rfl,q1,q2,hm.below hb hm.1⟩
end Go.Proofs.YtoglebfiobofoaaGreatDoor
/- GuardA: . -/
namespace Go.Proofs.YtoglebfiobofoaaGreatDoor
set_option maxRecDepth 100000
set_option maxHeartbeats 16000000
end Go.Proofs.YtoglebfiobofoaaGreatDoor
/- OffB: . -/
namespace Go.Proofs.YtoglebfiobofoaaGreatDoor
set_option maxRecDepth 100000
set_option maxHeartbeats 16000000
open Go.RowKit
attribute [local go_sem ↓] Go.wp_at_zero Go.wp_at_succ
variable {x:ByteArray} {L:List ByteArray} {base g n:Nat} {v:Value} {w w':World}
def CSee (w:World) (v:Value) (L:List ByteArray) (lo hi:Nat):Prop:=∃ (a:Option Addr) (cap:Nat),v = .slice a L.length cap/\L.length<=cap/\RRow w a (tv L) lo hi
theorem CSee.see {lo hi:Nat} (h:CSee w v L lo hi):SSee w v L lo hi:=by
 obtain ⟨a,cap,e,_,h1⟩:=h
 exact ⟨a,cap,e,h1⟩
def OwnAt (w:World) (base:Nat) (v:Value) (n:Nat) (L:List ByteArray):Prop:=
 L.length=n/\((v = .slice none 0 0/\n=0)\/∃ g off cap,v = .slice (some ⟨g,off,none⟩) n cap/\base<=g/\n<=cap/\(∀ j,j<cap->(w.cell? ⟨g,off+j,none⟩).isSome=true/\w.frozen? ⟨g,off+j,none⟩=false)/\OCells w g off L)
theorem OwnAt.nil (w:World) (base:Nat):OwnAt w base (.slice none 0 0) 0 []:=⟨rfl,.inl ⟨rfl,rfl⟩⟩
theorem own_cell1 {cur:Array Value} (hg:w.heap[g]?=some (.cells cur 9 (0,0))) (j:Nat) (hj:j<cur.size):(w.cell? ⟨g,j,none⟩).isSome=true/\w.frozen? ⟨g,j,none⟩=false:=by
 refine ⟨?_,?_⟩
 ·simp [World.cell?,hg,hj]
 ·simp [World.frozen?,hg]
theorem own_tail {base g n cap:Nat} (h:w.ownsRow base 9 1 (.slice (some ⟨g,0,none⟩) (n+1) cap) (n+1) (tv (x::L))):OwnAt w base (.slice (some ⟨g,1,none⟩) n (cap - 1)) n L:=by
 have hw:=qar h
 have hl:=h.1
 rw [qlw,List.length_cons] at hl
 rcases h.2 with ⟨e,_⟩ | ⟨g',cap',cur,e,hb,hg,hn,_,hs,_⟩
 ·cases e
 ·cases e
  refine ⟨by omega,.inr ⟨g,1,cap - 1,rfl,hb,by omega,fun j hj=>own_cell1 hg _ (by omega),hw.1,fun j hj=>?_⟩⟩
  have:=hw.2 (1+j) (.string (L.getD j ⟨#[]⟩)) (by rw [Nat.add_comm];exact qkb L j hj)
  exact this
theorem OwnAt.oans (h:OwnAt w base v n L):OAns w v L base w.heap.size:=by
 obtain ⟨hl,h | ⟨g,off,cap,e,hb,hn,_,hc⟩⟩:=h
 ·obtain ⟨e,h0⟩:=h
  rw [h0] at hl
  rw [List.eq_nil_of_length_eq_zero hl]
  exact ⟨none,0,e,Nat.le_refl _,.inl rfl⟩
 ·exact ⟨_,cap,by rw [hl];exact e,by omega,.inr ⟨g,off,rfl,hb,hc.1,hc⟩⟩
theorem OwnAt.lt (h:OwnAt w base v n L):∀ k,v.ownBlock=some k->base<=k/\k<w.heap.size:=by
 intro k hk
 obtain ⟨_,⟨rfl,_⟩ | ⟨g,off,cap,rfl,hb,_,_,hc⟩⟩:=h
 ·cases hk
 ·cases hk;exact ⟨hb,hc.1⟩
theorem OwnAt.kept (h:OwnAt w base v n L) (hs:w.heap.size<=w'.heap.size) (hb:∀ k,v.ownBlock=some k->w'.heap[k]?=w.heap[k]?):OwnAt w' base v n L:=by
 obtain ⟨hl,h0 | ⟨g,off,cap,rfl,hbs,hn,hf,hc⟩⟩:=h
 ·exact ⟨hl,.inl h0⟩
 ·have e:=hb g rfl
  exact ⟨hl,.inr ⟨g,off,cap,rfl,hbs,hn,fun j hj=>by rw [World.cell?_of_block (a:=⟨g,off+j,none⟩) e,World.frozen?_of_block (a:=⟨g,off+j,none⟩) e];exact hf j hj,hc.block hs e⟩⟩
theorem OwnAt.below (h:OwnAt w base v n L) (hb:Below w.heap.size w w'):OwnAt w' base v n L:=h.kept hb.size (fun k hk=>hb.block k (h.lt k hk).2)
theorem OwnAt.alloc (h:OwnAt w base v n L) (o:Obj):OwnAt (w.alloc o) base v n L:=h.below ((Below.refl _ _).alloc (Nat.le_refl _) _)
theorem isSome_set {a p:Addr} {x:Value} (h:(w.cell? p).isSome=true):((w.setCell a x).cell? p).isSome=true:=by
 obtain ⟨u,hu⟩:=Option.isSome_iff_exists.1 h
 by_cases e:p=a
 ·subst e
  rw [World.cell?_setCell_same _ _ _ hu];rfl
 ·rw [World.cell?_setCell_other _ _ _ _ (Ne.symm e)];exact h
theorem OCells.more {g off:Nat} (h:OCells w g off L) (hc:(w.cell? ⟨g,off+L.length,none⟩).isSome=true) (hf:w.frozen? ⟨g,off+L.length,none⟩=false):OCells (w.setCell ⟨g,off+L.length,none⟩ (.string x)) g off (L++[x]):=by
 refine ⟨by have:=h.1;simpa [World.setCell] using this,fun j hj=>?_⟩
 rw [List.length_append,List.length_singleton] at hj
 obtain ⟨u,hu⟩:=Option.isSome_iff_exists.1 hc
 by_cases e:j=L.length
 ·subst e
  refine ⟨?_,(World.frozen?_setCell _ _ _ _).trans hf⟩
  rw [World.cell?_setCell_same _ _ _ hu]
  simp [List.getD]
 ·have hj':j<L.length:=by omega
  refine ⟨?_,(World.frozen?_setCell _ _ _ _).trans (h.2 j hj').2⟩
  rw [World.cell?_setCell_other _ _ _ _ (fun q=>e (by have:=congrArg Addr.off q;simp at this;omega)),(h.2 j hj').1]
  simp [List.getD,List.getElem?_append_left hj']
def QPost (R:List ByteArray × Bool) (w:World) (e:Ending) (w':World):Prop:=∃ v,e = .returned (.tuple #[v,.bool R.2])/\OwnAt w' w.heap.size v R.1.length R.1/\Below w.heap.size w w'
theorem QPost.none {R:List ByteArray × Bool} {b:Bool} (h:R=([],b)) (hb:Below w.heap.size w w'):QPost R w (.returned (.tuple #[.slice none 0 0,.bool b])) w':=by
 unfold QPost
 rw [h]
 exact ⟨_,rfl,OwnAt.nil _ _,hb⟩
end Go.Proofs.YtoglebfiobofoaaGreatDoor
/- PaK: . -/
namespace Go.Proofs.YtoglebfiobofoaaGreatDoor
set_option maxRecDepth 100000
set_option maxHeartbeats 16000000
open Go.RowKit
open Go.PlainAid (bt)
attribute [local go_sem ↓] Go.wp_at_zero Go.wp_at_succ
variable {L:List ByteArray}
theorem split_parts {p x:ByteArray} (hp:p ≠ ⟨#[47]⟩) (h:(segs (lb p)).map ba=x::L):splitB p=if x.size=0/\1<=L.length/\L.length<=4/\(∀ s ∈ L,nameB s=true) then (L,true) else ([],false):=by
 unfold splitB
 cases e:lb p with
 | nil =>
  rw [e] at h
  simp only [segs,List.map_cons,List.map_nil,List.cons.injEq] at h
  rw [<-h.2,if_neg (fun q=>by have:=q.2.1;simp at this)]
  rfl
 | cons c r =>
  rw [e] at h
  by_cases hc:c=47
  ·subst hc
   have hr:r ≠ []:=fun q=>by
    subst q
    apply hp
    have:=congrArg ba e
    rwa [ba_lb] at this
   have e1:segs (47::r)=[]::segs r:=by simp [segs]
   rw [e1,List.map_cons,List.cons.injEq] at h
   obtain ⟨h1,h2⟩:=h
   have hx:x.size=0:=by rw [<-h1];rfl
   have hlen:L.length=(segs r).length:=by rw [<-h2,List.length_map]
   have hpos:1<=L.length:=by
    rw [hlen]
    exact List.length_pos_iff.2 (qhq r)
   have hall:(∀ s ∈ L,nameB s=true)↔(segs r).all nameL=true:=by
    rw [<-h2,List.all_eq_true]
    constructor
    ·intro q l hl
     have:=q (ba l) (List.mem_map.2 ⟨l,hl,rfl⟩)
     unfold nameB at this
     rwa [lb_ba] at this
    ·intro q s hs
     obtain ⟨l,hl,rfl⟩:=List.mem_map.1 hs
     unfold nameB
     rw [lb_ba]
     exact q l hl
   have es:qcd (47::r)=if (segs r).all nameL=true/\(segs r).length<=4 then (segs r,true) else ([],false):=by
    unfold qcd
    simp only
    rw [if_pos trivial,if_neg hr]
   rw [es]
   by_cases q:(segs r).all nameL=true/\(segs r).length<=4
   ·rw [if_pos q,if_pos ⟨hx,hpos,by omega,hall.2 q.1⟩]
    simp only
    rw [h2]
   ·rw [if_neg q,if_neg (fun k=>q ⟨hall.1 k.2.2.2,by have:=k.2.2.1;omega⟩)]
    rfl
  ·have e2:qcd (c::r)=([],false):=by unfold qcd;exact if_neg hc
   rw [e2]
   obtain ⟨y,t,ht⟩:∃ y t,segs r=y::t:=by
    cases q:segs r with
    | nil=>exact absurd q (qhq r)
    | cons y t=>exact ⟨y,t,rfl⟩
   rw [qoa hc ht,List.map_cons,List.cons.injEq] at h
   have hx:x.size ≠ 0:=by
    rw [<-h.1]
    show (c::y).toArray.size ≠ 0
    simp
   rw [if_neg (fun k=>hx k.1)]
   rfl
theorem parts_ne (p:ByteArray):∃ x L,(segs (lb p)).map ba=x::L:=by
 cases q:segs (lb p) with
 | nil=>exact absurd q (qhq _)
 | cons y t=>exact ⟨ba y,t.map ba,rfl⟩
theorem strClone9 (s:ByteArray) (w:World) (h:s.size<=281474976710656):Calls Tryz.prog 81 #[.string s] w fun e w'=>e = .returned (.string s)/\Below w.heap.size w w':=by
 go_enter Tryz.func81,Tryz.ntmps81
 go_wp2_with fail
 refine (Tryz.stringslite_Clone s _ h).mono ?_
 rintro e w1 ⟨rfl,hb⟩
 go_wp2_with fail
 go_ret
 exact ⟨rfl,hb⟩
theorem OwnAt.same {w:World} {base g off n cap k:Nat} (h:OwnAt w base (.slice (some ⟨g,off,none⟩) n cap) n L) (hk:k<L.length):OwnAt (w.setCell ⟨g,off+k,none⟩ (.string (L.getD k ⟨#[]⟩))) base (.slice (some ⟨g,off,none⟩) n cap) n L:=by
 obtain ⟨hl,h | ⟨g',off',cap',e,hb,hn,hf,hc⟩⟩:=h
 ·cases h.1
 ·cases e
  have hs:=hc.set k (L.getD k ⟨#[]⟩) hk
  have e2:L.set k (L.getD k ⟨#[]⟩)=L:=by
   have:L.getD k ⟨#[]⟩=L[k]:=by simp [List.getD,hk]
   rw [this]
   exact List.set_getElem_self hk
  rw [e2] at hs
  exact ⟨hl,.inr ⟨g,off,cap,rfl,hb,hn,fun j hj=>⟨isSome_set (hf j hj).1,(World.frozen?_setCell _ _ _ _).trans (hf j hj).2⟩,hs⟩⟩
theorem seg_small (p:ByteArray):∀ s ∈ (segs (lb p)).map ba,s.size<=p.size:=by
 have h:∀ (l:List UInt8),∀ t ∈ segs l,t.length<=l.length:=by
  intro l
  induction l with
  | nil=>intro t ht;simp [segs] at ht;subst ht;simp
  | cons c r ih =>
   intro t ht
   unfold segs at ht
   split at ht
   ·rcases List.mem_cons.1 ht with rfl | q
    ·simp
    ·have:=ih t q;simp;omega
   ·split at ht
    ·rename_i q;exact absurd q (qhq r)
    ·rename_i y u q
     rcases List.mem_cons.1 ht with rfl | k
     ·have:=ih y (by rw [q];simp);simp;omega
     ·have:=ih t (by rw [q];simp [k]);simp;omega
 intro s hs
 obtain ⟨l,hl,rfl⟩:=List.mem_map.1 hs
 exact h _ l hl
theorem qgs (p:ByteArray) (w:World) (hs:p.size<=1048576):Calls Tryz.prog 157 #[.string p] w fun e w'=>QPost (splitB p) w e w':=by
 by_cases h1:p=⟨#[47]⟩
 ·have HE:=Sh.mk (qlg h1)
  have h1':(p.toList==[47])=true:=by rw [h1,Go.ByteArray.toList_eq];rfl
  have HP:=Sh.mk h1
  clear h1
  go_enter Tryz.func157,Tryz.ntmps157
  go_wp2_with fail
  go_ret2
  exact QPost.none HE.1 (Below.refl _ _)
 have h1':(p.toList==[47])=false:=by
  rw [beq_eq_false_iff_ne]
  intro e
  rw [Go.ByteArray.toList_eq] at e
  exact h1 (ByteArray.ext (Array.toList_inj.1 e))
 have HB0:=Sh.mk (fun W=>implBetween p W hs)
 obtain ⟨x,L,hxl⟩:=parts_ne p
 have hsm:=seg_small p
 have hsp:=split_parts h1 hxl
 have hln:(segs (lb p)).length=L.length+1:=by
  have:=congrArg List.length hxl
  rwa [List.length_map,List.length_cons] at this
 rw [hln,hxl] at HB0
 rw [hxl] at hsm
 have HSM:=Sh.mk hsm
 have HSP:=Sh.mk hsp
 clear h1 hxl hsm hsp hln
 obtain ⟨n,hn⟩:∃ n,n=L.length:=⟨_,rfl⟩
 rw [<-hn] at HB0 HSP
 have HN:=Sh.mk hn
 clear hn
 go_enter Tryz.func157,Tryz.ntmps157
 go_wp2_with fail
 refine (HB0.1 _).mono ?_
 rintro e w1 ⟨v,rfl,hown,hb⟩
 obtain ⟨g,cap,rfl,hcap⟩:=qjn hown (by omega)
 have HB:=Sh.mk hb
 have hw:=qar hown
 have c0:=(hw.2 0 (.string x) rfl).1
 have HOT:=Sh.mk (own_tail hown)
 have z1:=hb.size
 clear hb hw hown HB0
 by_cases hx:x.size=0
 case neg =>
  have hx1:(x.toList != [])=true:=by
   rw [bne_iff_ne]
   intro q
   rw [Go.ByteArray.toList_eq] at q
   exact hx (show x.data.size=0 by rw [<-Array.length_toList,q];rfl)
  have hx2:¬ x.toList=[]:=bne_iff_ne.1 hx1
  have HE:Sh (splitB p=([],false)):=⟨by rw [HSP.1,if_neg (fun q=>hx q.1)]⟩
  clear HSP hx
  by_cases hc1:cap=1
  all_goals
   go_wp2_with fail
   go_quiet (fail)
   go_wp2_with fail
   go_ret2
   exact QPost.none HE.1 (below_drewN HB.1 _)
 have hx1:(x.toList != [])=false:=by
  rw [bne_eq_false_iff_eq,Go.ByteArray.toList_eq]
  exact List.eq_nil_of_length_eq_zero (by rw [Array.length_toList];exact hx)
 have hx2:x.toList=[]:=by rwa [bne_eq_false_iff_eq] at hx1
 by_cases hn1:(n:Int)<1
 ·have HE:Sh (splitB p=([],false)):=⟨by rw [HSP.1,if_neg (fun q=>by have:=q.2.1;omega)]⟩
  have hn5:¬ (1:Int)<=(n:Int):=by omega
  clear HSP hx
  by_cases hc1:cap=1
  all_goals
   go_wp2_with fail
   go_quiet (fail)
   go_wp2_with fail
   go_ret2
   exact QPost.none HE.1 (below_drewN HB.1 _)
 by_cases hn4:(4:Int)<(n:Int)
 ·have HE:Sh (splitB p=([],false)):=⟨by rw [HSP.1,if_neg (fun q=>by have:=q.2.2.1;omega)]⟩
  have hn5:(1:Int)<=(n:Int):=by omega
  have hn6:¬ (n:Int)<=4:=by omega
  clear HSP hx
  by_cases hc1:cap=1
  all_goals
   go_wp2_with fail
   go_quiet (fail)
   go_wp2_with fail
   go_ret2
   exact QPost.none HE.1 (below_drewN HB.1 _)
 have hc1:¬ cap=1:=by omega
 have hn5:(1:Int)<=(n:Int):=by omega
 have hn6:(n:Int)<=4:=by omega
 have HE:Sh (splitB p=if (∀ s ∈ L,nameB s=true) then (L,true) else ([],false)):=⟨by
  rw [HSP.1]
  by_cases q:∀ s ∈ L,nameB s=true
  ·rw [if_pos q,if_pos ⟨hx,by omega,by omega,q⟩]
  ·rw [if_neg q,if_neg (fun k=>q k.2.2.2)]⟩
 clear HSP hx
 go_wp2_with fail
 go_quiet (fail)
 go_wp2_with fail
 go_loopw [32] (fun i wr=>∃ (k:Nat),i = .int .i64 k/\k<=n/\Sh (∀ j,j<k->nameB (L.getD j ⟨#[]⟩)=true)/\Sh (OwnAt wr w.heap.size (.slice (some ⟨g,1,none⟩) n (cap - 1)) n L)/\Sh (Below w.heap.size w wr)) (fun i _=>n - (intOf i).toNat)
 case atStart=>exact ⟨0,rfl,Nat.zero_le _,⟨fun j hj=>by omega⟩,⟨HOT.1.kept (Nat.le_refl _) (fun _ _=>rfl)⟩,⟨below_drewN HB.1 _⟩⟩
 case round =>
  clear HOT HB c0
  obtain ⟨k,rfl,hk,hall,hown,hbl⟩:=hrel
  by_cases hlt:k<n
  ·have hkL:k<L.length:=by have:=HN.1;omega
   obtain ⟨_,q | ⟨g',off',cap',e',hgb,hnc,hf,hoc⟩⟩:=hown.1
   ·cases q.1
   cases e'
   have c1:=(hoc.2 k hkL).1
   have c2:=(hoc.2 k hkL).2
   have hg:=hoc.1
   have hB:=hbl.1.size
   have k0:(0:Int)<=(k:Int):=by omega
   have k1:(k:Int)<(n:Int):=by omega
   have hmem:L.getD k ⟨#[]⟩ ∈ L:=by simp [List.getD,hkL]
   have hsz:(L.getD k ⟨#[]⟩).size<=1048576:=by have:=HSM.1 _ (List.mem_cons_of_mem x hmem);omega
   have HNA:=Sh.mk (fun W=>qlf (L.getD k ⟨#[]⟩) W hsz)
   have HCL:=Sh.mk (fun W=>strClone9 (L.getD k ⟨#[]⟩) W (by omega))
   clear hf hoc
   cases hnm:nameB (L.getD k ⟨#[]⟩) with
   | false =>
    have HF:Sh (splitB p=([],false)):=⟨by rw [HE.1,if_neg (fun q=>by have:=q _ hmem;rw [hnm] at this;cases this)]⟩
    rw [hnm] at HNA
    generalize L.getD k ⟨#[]⟩=y at *
    clear hnm hmem HCL HE
    go_wp2_with fail
    refine (HNA.1 _).mono ?_
    rintro e w2 ⟨rfl,hb2⟩
    have HB2:=Sh.mk (hbl.1.trans (hb2.mono hbl.1.size))
    clear hb2
    go_wp2_with fail
    go_ret2
    exact QPost.none HF.1 HB2.1
   | true =>
    have HA:Sh (∀ j,j<k+1->nameB (L.getD j ⟨#[]⟩)=true):=⟨fun j hj=>by
     by_cases e:j=k
     ·subst e;exact hnm
     ·exact hall.1 j (by omega)⟩
    have HSA:=Sh.mk (fun W (q:OwnAt W w.heap.size (.slice (some ⟨g,1,none⟩) n (cap - 1)) n L)=>q.same hkL)
    rw [hnm] at HNA
    generalize L.getD k ⟨#[]⟩=y at *
    clear hnm hmem HE hall
    go_wp2_with fail
    refine (HNA.1 _).mono ?_
    rintro e w2 ⟨rfl,hb2⟩
    have HB2:=Sh.mk (hbl.1.trans (hb2.mono hbl.1.size))
    have HO2:=Sh.mk (hown.1.below hb2)
    rw [<-hb2.cell (p:=⟨g,1+k,none⟩) hg] at c1
    rw [<-hb2.frozen (p:=⟨g,1+k,none⟩) hg] at c2
    have hg2:=Nat.lt_of_lt_of_le hg hb2.size
    clear hb2 HNA hown hbl
    go_wp2_with fail
    refine (HCL.1 _).mono ?_
    rintro e w3 ⟨rfl,hb3⟩
    have HB3:=Sh.mk (HB2.1.trans (hb3.mono HB2.1.size))
    have HO3:=Sh.mk (HO2.1.below hb3)
    rw [<-hb3.cell (p:=⟨g,1+k,none⟩) hg2] at c1
    rw [<-hb3.frozen (p:=⟨g,1+k,none⟩) hg2] at c2
    have hg3:=Nat.lt_of_lt_of_le hg2 hb3.size
    clear hb3 HCL HO2 HB2
    have HO4:=Sh.mk (HSA.1 _ HO3.1)
    have HB4:=Sh.mk (HB3.1.grown (grownBy_setCell w3 g (1+k) (.string y)) HB3.1.size (fun j hj=>by cases hj;exact hgb))
    clear HO3 HB3 HSA
    go_wp2_with fail
    go_roundw
    case rel=>exact ⟨k+1,by go_num,by omega,HA,HO4,HB4⟩
    case measure=>simp [intOf];omega
  ·have HF:Sh (splitB p=(L,true)):=⟨by
    rw [HE.1,if_pos (fun s hs=>?_)]
    obtain ⟨j,hj,rfl⟩:=List.mem_iff_getElem.1 hs
    have:=hall.1 j (by have:=HN.1;omega)
    simpa [List.getD,hj] using this⟩
   have k1:¬ (k:Int)<(n:Int):=by omega
   clear hall HE
   go_wp2_with fail
   go_ret2
   unfold QPost
   rw [HF.1]
   exact ⟨_,rfl,by rw [<-HN.1];exact hown.1,hbl.1⟩
end Go.Proofs.YtoglebfiobofoaaGreatDoor
/- LawPth: . -/
namespace Go.Proofs.YtoglebfiobofoaaGreatDoor
set_option maxRecDepth 100000
set_option maxHeartbeats 16000000
open Go.RowKit
attribute [local irreducible] nameB splitB joinB qab tsum
end Go.Proofs.YtoglebfiobofoaaGreatDoor
/- Draw: . -/
namespace Go.Proofs.YtoglebfiobofoaaGreatDoor
set_option maxRecDepth 100000
set_option maxHeartbeats 16000000
open Go.RowKit
attribute [local go_sem ↓] Go.wp_at_zero Go.wp_at_succ
variable {a:Option Addr} {row:Option Nat} {w w':World}
def CodeAt (w:World) (B:Nat) (a:Option Addr) (len:Nat):Prop:=
 len<=1048576/\(0<len->∃ b off,a=some ⟨b,off,none⟩/\b<B/\∀ j,j<len->∃ x:Int,w.cell? ⟨b,off+j,none⟩=some (.int .u8 x)/\0<=x/\x<=255)
def Cur (w:World) (g B:Nat) (a:Option Addr) (len cap:Nat):Prop:=
 B<=g/\g<w.heap.size/\CodeAt w B a len/\w.cell? ⟨g,0,none⟩=some (.slice a len cap) /\
 (∃ i:Nat,w.cell? ⟨g,1,none⟩=some (.int .i64 i)/\i<=len)/\(∃ h:Int,w.cell? ⟨g,2,none⟩=some (.int .i64 h)) /\
 (∀ j,j<3->w.frozen? ⟨g,j,none⟩=false)
theorem qrn {a b c:World} (h:a.grownBy b row) (k:b.grownBy c row):a.grownBy c row:=
 ⟨k.os.trans h.os,k.tape.trans h.tape,k.output.trans h.output,Nat.le_trans h.size k.size,fun i hi hn=>(k.block i (Nat.lt_of_lt_of_le hi h.size) hn).trans (h.block i hi hn)⟩
theorem qpz (h:Below w.heap.size w w'):w.grownBy w' row:=⟨h.os,h.tape,h.output,h.size,fun k hk _=>h.block k hk⟩
theorem CodeAt.below {B C len:Nat} (h:CodeAt w B a len) (hb:Below C w w') (hC:B<=C):CodeAt w' B a len:=by
 refine ⟨h.1,fun hl=>?_⟩
 obtain ⟨b,off,rfl,hlt,hx⟩:=h.2 hl
 refine ⟨b,off,rfl,hlt,fun j hj=>?_⟩
 obtain ⟨x,hc,h0,h1⟩:=hx j hj
 exact ⟨x,(hb.cell (p:=⟨b,off+j,none⟩) (Nat.lt_of_lt_of_le hlt hC)).trans hc,h0,h1⟩
theorem Cur.below {g B len cap:Nat} (h:Cur w g B a len cap) (hb:Below w.heap.size w w'):Cur w' g B a len cap:=by
 obtain ⟨hB,hg,hcode,c0,⟨i,c1,hi⟩,⟨k,c2⟩,hf⟩:=h
 exact ⟨hB,Nat.lt_of_lt_of_le hg hb.size,hcode.below hb (by omega),(hb.cell (p:=⟨g,0,none⟩) hg).trans c0,⟨i,(hb.cell (p:=⟨g,1,none⟩) hg).trans c1,hi⟩,⟨k,(hb.cell (p:=⟨g,2,none⟩) hg).trans c2⟩,
  fun j hj=>(hb.frozen (p:=⟨g,j,none⟩) hg).trans (hf j hj)⟩

def iv (l:List Int):List Value:=l.map fun x=>.int .i64 x
def noZ (t:ByteArray):Bool:=t.data.toList.all (· != 122)

end Go.Proofs.YtoglebfiobofoaaGreatDoor
/- OpenC: . -/
namespace Go.Proofs.YtoglebfiobofoaaGreatDoor
set_option maxRecDepth 100000
set_option maxHeartbeats 16000000
open Go.RowKit Go.ChangeShapes Go.WideShapes
end Go.Proofs.YtoglebfiobofoaaGreatDoor
/- LawPts: . -/
namespace Go.Proofs.YtoglebfiobofoaaGreatDoor
set_option maxRecDepth 100000
set_option maxHeartbeats 16000000
open Go.RowKit
attribute [local go_sem ↓] Go.wp_at_zero Go.wp_at_succ
theorem join_size {I:List ByteArray} (h:TFit I):(joinB I).size<=1048576:=by
 by_cases e:I=[]
 ·subst e;decide
 ·rw [qqn e,qlh];exact h
end Go.Proofs.YtoglebfiobofoaaGreatDoor
/- PaL: . -/
namespace Go.Proofs.YtoglebfiobofoaaGreatDoor
set_option maxRecDepth 100000
set_option maxHeartbeats 16000000
open Go.RowKit
open Go.PlainAid (bt)
attribute [local go_sem ↓] Go.wp_at_zero Go.wp_at_succ
variable {L:List ByteArray} {base n:Nat} {v:Value} {w:World}
theorem qqk (L:List (List UInt8)):(47::Lib.join L [47])=joinP L:=by
 cases L with
 | nil=>rfl
 | cons x L =>
  unfold joinP
  rw [if_neg (by simp)]
  induction L generalizing x with
  | nil=>simp [Lib.join]
  | cons y L ih =>
   have:=ih y
   simp only [List.map_cons,List.flatten_cons,List.cons_append,List.cons.injEq,true_and] at this ⊢
   rw [<-this]
   simp [Lib.join]
theorem joinP_len (L:List ByteArray) (h:TFit L):(Lib.join (L.map lb) [47]).length<=2097152:=by
 have e:=congrArg List.length (qqk (L.map lb))
 have:=join_size h
 have hb:(joinB L).size=(joinP (L.map lb)).length:=by
  unfold joinB
  show (joinP (L.map lb)).toArray.size=_
  simp
 rw [List.length_cons] at e
 omega
theorem implJoinPath (w:World) (u:Value) (L:List ByteArray) (lo hi:Nat) (hu:CSee w u L lo hi) (hf:TFit L):Calls Tryz.prog 188 #[u] w fun e w'=>e = .returned (.string (joinB L))/\Below w.heap.size w w':=by
 obtain ⟨a,cap,rfl,hc,hr⟩:=hu
 have hjl:=joinP_len L hf
 have HJ:Sh (joinB L=(⟨#[47]⟩:ByteArray)++⟨(Lib.join (L.map lb) [47]).toArray⟩):=⟨by
  unfold joinB
  rw [<-qqk]
  apply ByteArray.ext
  simp⟩
 by_cases h0:L=[]
 ·subst h0
  have HN:=Sh.mk (fun W=>Tryz.strings_Join_none a cap ⟨#[47]⟩ W)
  clear hr hf hjl
  go_enter Tryz.func188,Tryz.ntmps188
  go_wp2_with fail
  refine (HN.1 _).mono ?_
  rintro e w1 ⟨rfl,hw⟩
  subst hw
  go_wp2_with fail
  go_ret
  exact ⟨rfl,Below.refl _ _⟩
 ·obtain ⟨b,off,rfl,hb,hcs⟩:=qqm hr (List.length_pos_iff.2 h0)
  have hn:L.length<=1048576:=by unfold TFit at hf;omega
  have HN:=Sh.mk (Tryz.strings_Join b off cap L ⟨#[47]⟩ w (fun j x hx=>by
   obtain ⟨hj,e⟩:=List.getElem?_eq_some_iff.1 hx
   have:=hcs j hj
   rw [this]
   simp [List.getD,hj,e]) hb (by omega) hc (by
    show (Lib.join (L.map lb) [47]).length<=_
    omega))
  have hsz:((⟨(Lib.join (L.map lb) [47]).toArray⟩:ByteArray)).size<=2097152:=by
   show (Lib.join (L.map lb) [47]).toArray.size<=_
   simpa using hjl
  have HN':Sh (Calls Tryz.prog 192 #[.slice (some ⟨b,off,none⟩) L.length cap,.string ⟨#[47]⟩] w fun e w'=>e = .returned (.string ⟨(Lib.join (L.map lb) [47]).toArray⟩)/\Below w.heap.size w w'):=HN
  generalize (⟨(Lib.join (L.map lb) [47]).toArray⟩:ByteArray)=J at *
  clear hr hf hjl hcs HN h0
  go_enter Tryz.func188,Tryz.ntmps188
  go_wp2_with fail
  refine HN'.out.mono ?_
  rintro e w1 ⟨rfl,hb1⟩
  go_wp2_with fail
  go_ret
  exact ⟨by rw [HJ.1];rfl,hb1⟩
theorem OwnAt.form (h:OwnAt w base v n L):∃ a cap,v = .slice a n cap:=by
 obtain ⟨_,⟨e,h0⟩ | ⟨g,off,cap,e,_⟩⟩:=h
 ·exact ⟨none,0,by rw [e,h0]⟩
 ·exact ⟨_,cap,e⟩
theorem OwnAt.some' (h:OwnAt w base v n L) (hp:0<n):∃ g off cap,v = .slice (some ⟨g,off,none⟩) n cap/\n<=cap/\g<w.heap.size/\∀ j,j<L.length->w.cell? ⟨g,off+j,none⟩=some (.string (L.getD j ⟨#[]⟩)):=by
 obtain ⟨_,⟨_,h0⟩ | ⟨g,off,cap,e,_,hn,_,hc⟩⟩:=h
 ·omega
 ·exact ⟨g,off,cap,e,hn,hc.1,fun j hj=>(hc.2 j hj).1⟩
theorem CSee.below {w w':World} {lo hi:Nat} (h:CSee w v L lo hi) (hb:Below w.heap.size w w'):CSee w' v L lo hi:=by
 obtain ⟨a,cap,e,hc,hr⟩:=h
 obtain ⟨a',cap',e',hr'⟩:=(show SSee w v L lo hi from ⟨a,cap,e,hr⟩).below hb
 rw [e] at e'
 cases e'
 exact ⟨a,cap,e,hc,hr'⟩
theorem qfz (p:ByteArray) (w:World) (hs:p.size<=1048576):Calls Tryz.prog 171 #[.string p] w fun e w'=>qel p w e w':=by
 have HS:=Sh.mk (fun W=>qgs p W hs)
 have hnm:=qbx p
 unfold QPost at HS
 unfold qel
 obtain ⟨L,ok,hre⟩:∃ L ok,splitB p=(L,ok):=⟨_,_,rfl⟩
 rw [hre] at HS hnm
 have HN:=Sh.mk hnm
 clear hnm
 cases ok with
 | false =>
  rw [qgv hre (.inl rfl)]
  clear hre
  go_enter Tryz.func171,Tryz.ntmps171
  go_wp2_with fail
  refine (HS.1 _).mono ?_
  rintro e w1 ⟨v,rfl,ho,hb⟩
  obtain ⟨a,cap,rfl⟩:=ho.form
  have HB:=Sh.mk hb
  clear ho hb
  go_wp2_with fail
  go_ret3
  exact ⟨rfl,HB.1⟩
 | true =>
  rcases List.eq_nil_or_concat L with rfl | ⟨I,x,rfl⟩
  ·rw [qgv hre (.inr rfl)]
   clear hre
   go_enter Tryz.func171,Tryz.ntmps171
   go_wp2_with fail
   refine (HS.1 _).mono ?_
   rintro e w1 ⟨v,rfl,ho,hb⟩
   obtain ⟨a,cap,rfl⟩:=ho.form
   have HB:=Sh.mk hb
   clear ho hb
   go_wp2_with fail
   go_ret3
   exact ⟨rfl,HB.1⟩
  ·rw [List.concat_eq_append] at *
   rw [qli hre]
   obtain ⟨J,hJ⟩:∃ J,J=joinB I:=⟨_,rfl⟩
   have HJE:=Sh.mk hJ
   rw [<-hJ]
   clear hJ
   have h4:=HN.1.2
   have HF:Sh (TFit I):=⟨qnz (fun s h=>HN.1.1 s (List.mem_append.2 (.inl h))) (by rw [List.length_append] at h4;omega)⟩
   obtain ⟨m,hm⟩:∃ m,m=I.length:=⟨_,rfl⟩
   have HM:=Sh.mk hm
   have hm4:m<=4:=by rw [List.length_append] at h4;omega
   rw [show (I++[x],true).1.length=m+1 by simp [hm]] at HS
   clear hre h4 hm
   go_enter Tryz.func171,Tryz.ntmps171
   go_wp2_with fail
   refine (HS.1 _).mono ?_
   rintro e w1 ⟨v,rfl,ho,hb⟩
   obtain ⟨g,off,cap,rfl,hcap,hg,hcs⟩:=ho.some' (by omega)
   have d0:w1.cell? ⟨g,off+m,none⟩=some (.string x):=by
    rw [hcs m (by rw [List.length_append,HM.1];simp)]
    simp [List.getD,HM.1]
   have hsee:CSee w1 (.slice (some ⟨g,off,none⟩) m cap) I 0 w1.heap.size:=⟨_,cap,by rw [HM.1],by rw [<-HM.1];omega,fun _=>⟨g,off,rfl,Nat.zero_le _,hg,hg,fun i u hu=>by
    have hi:i<I.length:=by
     have:=(List.getElem?_eq_some_iff.1 hu).1
     rwa [qlw] at this
    rw [qkb I i hi] at hu
    cases hu
    rw [hcs i (by rw [List.length_append];omega)]
    simp [List.getD,List.getElem?_append_left hi]⟩⟩
   have HJ:=Sh.mk (fun W (hW:Below w1.heap.size w1 W)=>implJoinPath W _ _ _ _ (hsee.below hW) HF.1)
   have HB:=Sh.mk hb
   have hm0:(((m+1:Nat):Int)==0)=false:=by rw [beq_eq_false_iff_ne];omega
   obtain ⟨n,hn⟩:∃ n,n=m+1:=⟨_,rfl⟩
   rw [<-hn] at hcap hm0 ⊢
   have hnm:(n:Int) - 1=(m:Int):=by omega
   have hmn:(m:Int)<(n:Int):=by omega
   have hmc:(m:Int)<=(cap:Int):=by omega
   have hm9:(0:Int)<=(m:Int):=by omega
   have hwr:IntKind.i64.wrap ((n:Int) - 1)=(m:Int):=by rw [hnm];exact IntWalk.i64_in _ ⟨by omega,by omega⟩
   rw [<-HJE.1] at HJ
   clear ho hb hcs hsee hn HN HM hnm
   go_wp2_with fail
   go_region_held3 (fun w'=>w'.cell? ⟨g,off+m,none⟩=some (.string x))
    (first | assumption | (exact (hb9.cell (p:=⟨g,off+m,none⟩) hg).trans (by assumption)) | go_keep)
    (first | (go_at_call 188;refine (HJ.1 _ (by first | exact Below.refl _ _ | exact Below.drew (Below.refl _ _))).mono ?_;rintro e w9 ⟨rfl,hb9⟩))
   all_goals
    go_wp2_with fail
    go_ret3
    exact ⟨rfl,by first | exact HB.1.trans (hb9.mono HB.1.size) | exact HB.1.trans (((Below.drew (Below.refl w1.heap.size w1)).trans hb9).mono HB.1.size)⟩
end Go.Proofs.YtoglebfiobofoaaGreatDoor
/- SpnB: . -/
namespace Go.Proofs.YtoglebfiobofoaaGreatDoor
set_option maxRecDepth 100000
set_option maxHeartbeats 16000000
open Go.RowKit
attribute [local go_sem ↓] Go.wp_at_zero Go.wp_at_succ
variable {s:Int} {xs:List Int} {hi lo n:Nat} {v:Value} {w w':World}
def IAns (w:World) (v:Value) (xs:List Int) (lo hi:Nat):Prop:=∃ (a:Option Addr) (cap:Nat),v = .slice a xs.length cap/\xs.length<=cap/\(xs=[]\/∃ g,a=some ⟨g,0,none⟩/\lo<=g/\g<hi/\WCells w g (ics xs))
theorem IAns.empty (w:World) (a:Option Addr) (cap lo hi:Nat):IAns w (.slice a 0 cap) [] lo hi:=⟨a,cap,rfl,Nat.zero_le _,.inl rfl⟩
theorem IAns.crow (h:IAns w v xs lo hi):∃ a cap,v = .slice a xs.length cap/\CRow w a (ics xs):=by
 obtain ⟨a,cap,e,_,q⟩:=h
 refine ⟨a,cap,e,?_⟩
 rcases q with rfl | ⟨g,rfl,_,_,q⟩
 ·intro h;simp [ics] at h
 ·exact q.crow
theorem IAns.turned {lo hi lo' hi':Nat} (h:IAns w v xs lo hi) (t:Turned w w' lo' hi') (hd:hi<=lo'\/hi'<=lo):IAns w' v xs lo hi:=by
 obtain ⟨a,cap,e,hc,q⟩:=h
 refine ⟨a,cap,e,hc,?_⟩
 rcases q with rfl | ⟨g,rfl,h1,h2,h3⟩
 ·exact .inl rfl
 ·exact .inr ⟨g,rfl,h1,h2,h3.turned t (by omega)⟩
theorem IAns.below (h:IAns w v xs lo hi) (hb:Below w.heap.size w w'):IAns w' v xs lo hi:=by
 obtain ⟨a,cap,e,hc,q⟩:=h
 refine ⟨a,cap,e,hc,?_⟩
 rcases q with rfl | ⟨g,rfl,h1,h2,h3⟩
 ·exact .inl rfl
 ·exact .inr ⟨g,rfl,h1,h2,h3.below hb h3.1⟩
def IPost (xs:List Int) (w:World) (e:Ending) (w':World):Prop:=∃ v,e = .returned v/\IAns w' v xs w.heap.size w'.heap.size/\Below w.heap.size w w'
theorem qft (hn:xs.length=n) (h:w'.ownsRow w.heap.size 3 1 v n (ics xs)):IAns w' v xs w.heap.size w'.heap.size:=by
 have hlt:=h.lt
 have hown:=h
 subst hn
 obtain ⟨_,⟨rfl,h0⟩ | ⟨g,cap,cur,rfl,hB,hcur,hn,_⟩⟩:=h
 ·have:xs=[]:=List.eq_nil_of_length_eq_zero h0
  subst this
  exact IAns.empty _ _ _ _ _
 ·exact ⟨_,cap,rfl,hn,.inr ⟨g,rfl,hB,(hlt g rfl).2,qar hown⟩⟩
def spanL (S n:Nat):List Int:=List.replicate ((n - 1) / S) (S:Int)++[((n - (n - 1) / S*S:Nat):Int)]
def qaw (s n:Int):List Int:=if schOk s=true/\1<=n/\n<=1000 then spanL (qbh s) n.toNat else []
theorem qec {s n:Int} (h:¬ (schOk s=true/\1<=n/\n<=1000)):qaw s n=[]:=if_neg h
theorem qjx (h:schOk s=true):16<=qbh s:=by have:=(qfr h).1;unfold qbh;omega
theorem qll (h:schOk s=false):qbh s=0:=by unfold qbh;rw [(qfs h).1]
theorem qoh {S n j:Nat} (hS:0<S) (h1:j*S<n) (h2:n<=j*S+S):(n - 1) / S=j:=by
 have e:n - 1=(n - 1 - j*S)+j*S:=by omega
 rw [e,Nat.add_mul_div_right _ _ hS,Nat.div_eq_of_lt (by omega),Nat.zero_add]
theorem specSpans (s n:Int) (w:World):Calls Tryz.prog 137 #[.int .i64 s,.int .i64 n] w fun e w'=>IPost (qaw s n) w e w':=by
 obtain ⟨i1,hi1,hy0,hy1,hy2⟩:=info_parts qig
 have HG:=Sh.mk (fun W=>qgz s W)
 obtain ⟨bn,hbn⟩:∃ r,(decide ((1:Int)<=n)&&decide (n<=1000))=r:=⟨_,rfl⟩
 have hin:=in_bool hbn
 have HIN:=Sh.mk (fun W=>isIn n 1 1000 W bn hbn)
 have hg32:=qcf s
 have hal:Below w.heap.size w (w.alloc (.cells #[] 3)):=(Below.refl _ _).alloc (Nat.le_refl _) _
 have HAL:=Sh.mk hal
 have HO:Sh ((w.alloc (.cells #[] 3)).ownsRow w.heap.size 3 1 (.slice (some ⟨w.heap.size,0,none⟩) 0 0) 0 []):=⟨World.ownsRow_made w #[] 0 (Nat.le_refl _) (by decide) rfl⟩
 clear hal hbn
 cases h:schOk s with
 | false =>
  rw [qec (fun q=>by rw [h] at q;cases q.1)]
  rw [qll h] at HG
  clear h hin hg32
  go_enter Tryz.func137,Tryz.ntmps137
  go_wp2_with fail
  refine (HG.1 _).mono ?_
  rintro e w1 ⟨rfl,rfl⟩
  go_wp2_with fail
  go_ret
  exact ⟨_,rfl,IAns.empty _ _ _ _ _,HAL.1⟩
 | true =>
  have h16:=qjx h
  cases bn with
  | false =>
   rw [qec (fun q=>by have:=hin.2 q.2;cases this)]
   clear h hin
   generalize qbh s=S at *
   have hS0:((S:Int)==0)=false:=by rw [beq_eq_false_iff_ne];omega
   go_enter Tryz.func137,Tryz.ntmps137
   go_wp2_with fail
   refine (HG.1 _).mono ?_
   rintro e w1 ⟨rfl,rfl⟩
   go_wp2_with fail
   refine (HIN.1 _).mono ?_
   rintro e w2 ⟨rfl,rfl⟩
   go_wp2_with fail
   go_ret
   exact ⟨_,rfl,IAns.empty _ _ _ _ _,HAL.1⟩
  | true =>
   obtain ⟨n1,n2⟩:=hin.1 rfl
   obtain ⟨N,rfl⟩:=Int.eq_ofNat_of_zero_le (show 0<=n by omega)
   have e0:qaw s (N:Int)=spanL (qbh s) N:=by unfold qaw;rw [if_pos ⟨h,n1,n2⟩];rfl
   rw [e0]
   clear h hin e0
   generalize qbh s=S at *
   have hS0:((S:Int)==0)=false:=by rw [beq_eq_false_iff_ne];omega
   go_enter Tryz.func137,Tryz.ntmps137
   go_wp2_with fail
   refine (HG.1 _).mono ?_
   rintro e w1 ⟨rfl,hw1⟩
   obtain rfl:w.alloc (.cells #[] 3)=w1:=hw1.symm
   clear hw1
   go_wp2_with fail
   refine (HIN.1 _).mono ?_
   rintro e w2 ⟨rfl,hw2⟩
   obtain rfl:w.alloc (.cells #[] 3)=w2:=hw2.symm
   clear hw2
   go_wp2_with fail
   go_loopw [1,5] (fun nn v wr=>∃ (j r:Nat) (vv:Value),vv=v/\nn = .int .i64 (r:Nat)/\1<=r/\r<=1000/\Sh (j*S+r=N)/\j<=1000/\Sh (wr.ownsRow w.heap.size 3 1 vv j (ics (List.replicate j (S:Int))))/\Sh (Below w.heap.size w wr)) (fun nn _ _=>(intOf nn).toNat)
   case atStart=>exact ⟨0,N,_,rfl,rfl,by omega,by omega,⟨by omega⟩,by omega,HO,HAL⟩
   case round =>
    clear HO HAL
    obtain ⟨j,r,v,rfl,rfl,hr1,hr2,hjr,hj,hown,hb⟩:=hrel
    obtain ⟨wo,rfl⟩:∃ wo,wo=wr:=⟨_,rfl⟩
    have hso:=hb.1.size
    have hown3:=hown.1
    by_cases hlt:S<r
    ·have hlt':(S:Int)<(r:Int):=by omega
     have hj2:j+1<=1000:=by
      have h1:=hjr.1
      have h2:j<=j*S:=Nat.le_mul_of_pos_right j (by omega)
      omega
     go_wp2_with (at_builtin;refine wpList_append_own _ rfl _ _ 49 rfl w.heap.size 3 i1 (.int .i64 0) 1 8 Tryz.underlying49 hi1 hy0 hy1 hy2 rfl (by decide) _ _ _ rfl (hown3.alloc _) ⟨wo.heap.size,0,none⟩ 1 1 [.int .i64 (S:Int)] rfl rfl (cell_one_new _ _ _) ?c2 ?c3 ?c4 ?c5 ?_)
     case c2=>first | rfl | (intro u hu;simp at hu;subst hu;rfl)
     case c3=>unfold maxLen;omega
     case c4=>omega
     case c5=>first | omega | (simp;omega)
     intro v' w4 hown' hgrow _
     have Q1:Sh (w4.ownsRow w.heap.size 3 1 v' (j+1) (ics (List.replicate (j+1) (S:Int)))):=⟨by
      have e:ics (List.replicate (j+1) (S:Int))=ics (List.replicate j (S:Int))++[.int .i64 (S:Int)]:=by rw [List.replicate_succ'];simp [ics]
      rw [e];exact hown'⟩
     have Q2:=Sh.mk ((hb.1.alloc hso (.cells #[.int .i64 (S:Int)] 3)).grown hgrow (by simp;omega) (fun j hj=>(hown3.lt j hj).1))
     have Q3:Sh ((j+1)*S+(r - S)=N):=⟨by rw [Nat.add_mul];have:=hjr.1;omega⟩
     have hsub:(r:Int) - (S:Int)=((r - S:Nat):Int):=by omega
     clear hown' hgrow hown3 hb hown hjr
     go_wp2_with fail
     exact ⟨⟨j+1,r - S,v',rfl,by rw [<-hsub],by omega,by omega,Q3,hj2,Q1,Q2⟩,by simp [intOf];omega⟩
    ·have hlt':¬ (S:Int)<(r:Int):=by omega
     have hle:(r:Int)<=(S:Int):=by omega
     have HSP:Sh (spanL S N=List.replicate j (S:Int)++[(r:Int)]):=⟨by
      have h1:=hjr.1
      have e:=qoh (S:=S) (n:=N) (j:=j) (by omega) (by omega) (by omega)
      unfold spanL
      rw [e]
      congr 3
      omega⟩
     go_wp2_with (at_builtin;refine wpList_append_own _ rfl _ _ 49 rfl w.heap.size 3 i1 (.int .i64 0) 1 8 Tryz.underlying49 hi1 hy0 hy1 hy2 rfl (by decide) _ _ _ rfl (hown3.alloc _) ⟨wo.heap.size,0,none⟩ 1 1 [.int .i64 (r:Int)] rfl rfl (cell_one_new _ _ _) ?c2 ?c3 ?c4 ?c5 ?_)
     case c2=>first | rfl | (intro u hu;simp at hu;subst hu;rfl)
     case c3=>unfold maxLen;omega
     case c4=>omega
     case c5=>first | omega | (simp;omega)
     intro v' w4 hown' hgrow _
     have Q1:Sh (IAns w4 v' (spanL S N) w.heap.size w4.heap.size):=⟨by
      rw [HSP.1]
      refine qft (n:=j+1) (by simp) ?_
      have e:ics (List.replicate j (S:Int)++[(r:Int)])=ics (List.replicate j (S:Int))++[.int .i64 (r:Int)]:=by simp [ics]
      rw [e];exact hown'⟩
     have Q2:=Sh.mk ((hb.1.alloc hso (.cells #[.int .i64 (r:Int)] 3)).grown hgrow (by simp;omega) (fun j hj=>(hown3.lt j hj).1))
     clear hown' hgrow hown3 hb hown
     go_wp2_with fail
     go_ret
     exact ⟨v',rfl,Q1.1,Q2.1⟩
end Go.Proofs.YtoglebfiobofoaaGreatDoor
/- PathS: . -/
namespace Go.Proofs.YtoglebfiobofoaaGreatDoor
set_option maxRecDepth 100000
set_option maxHeartbeats 16000000
theorem flat_size (L:List (List UInt8)) (h:∀ l ∈ L,nameL l=true):((L.map (47::·)).flatten).length<=9*L.length:=by
 induction L with
 | nil=>simp
 | cons x L ih =>
  have h1:=(qjo (h x (by simp))).2
  have h2:=ih fun l hl=>h l (by simp [hl])
  simp only [List.map_cons,List.flatten_cons,List.length_append,List.length_cons]
  omega
theorem qbb (p:ByteArray):(qab p).1.size<=36/\(qab p).2.1.size<=8:=by
 unfold qab
 split
 ·rename_i hc
  obtain ⟨h1,h2⟩:=qjq (p:=lb p)
  have hl:∀ l ∈ (qcd (lb p)).1.dropLast,nameL l=true:=fun l hl=>h1 l (List.dropLast_subset _ hl)
  have e:(splitB p).1=(qcd (lb p)).1.map ba:=rfl
  dsimp only
  refine ⟨?_,?_⟩
  ·have e2:((splitB p).1.dropLast.map lb)=(qcd (lb p)).1.dropLast:=by
    rw [e,List.dropLast_eq_take,List.dropLast_eq_take,List.length_map,<-List.map_take,qoc]
   unfold joinB
   rw [e2]
   show (joinP _).toArray.size<=36
   rw [List.size_toArray]
   unfold joinP
   split
   ·simp
   ·have h3:=flat_size _ hl
    rw [List.length_dropLast] at h3
    omega
  ·have hne:=hc.2
   rcases List.eq_nil_or_concat (splitB p).1 with h0 | ⟨I,x,h0⟩
   ·exact absurd h0 hne
   ·rw [h0]
    have hx:x ∈ (splitB p).1:=by rw [h0];simp
    have hn:=(qbx p).1 x hx
    have:=(qjo (l:=lb x) hn).2
    have e3:(I++[x]).getLastD ⟨#[]⟩=x:=by simp [List.getLastD_eq_getLast?]
    rw [List.concat_eq_append,e3]
    exact this
 ·exact ⟨by decide,by decide⟩
end Go.Proofs.YtoglebfiobofoaaGreatDoor
/- VarBack: . -/
namespace Go.Proofs.YtoglebfiobofoaaGreatDoor.W
end Go.Proofs.YtoglebfiobofoaaGreatDoor.W
/- ActA: . -/
namespace Go.Proofs.YtoglebfiobofoaaGreatDoor
set_option maxRecDepth 100000
set_option maxHeartbeats 16000000
open Go.RowKit
attribute [local go_sem ↓] Go.wp_at_zero Go.wp_at_succ
variable {a:Option Addr} {w:World}
structure AM where
 kind:Int
 name:ByteArray
 text:ByteArray
 dst:ByteArray
instance:Inhabited AM:=⟨⟨0,⟨#[]⟩,⟨#[]⟩,⟨#[]⟩⟩⟩
abbrev av (f:AM):Value:=.agg #[.int .i64 f.kind,.string f.name,.string f.text,.string f.dst]
def qsr (f:AM):List Value:=[.int .i64 f.kind,.string f.name,.string f.text,.string f.dst]
theorem qcy (f:AM):(qsr f).length=4:=rfl
def acs (fs:List AM):List Value:=fs.flatMap qsr
theorem qoy (fs:List AM):(acs fs).length=fs.length*4:=qco qcy fs
abbrev ARow (w:World) (a:Option Addr) (fs:List AM):Prop:=CRow w a (acs fs)
theorem ARow.at {fs:List AM} (h:ARow w a fs) (hp:0<fs.length) :
  ∃ b off,a=some ⟨b,off,none⟩/\b<w.heap.size/\∀ j (h:j<fs.length),w.cell? ⟨b,off+j*4,none⟩=some (.int .i64 fs[j].kind)/\w.cell? ⟨b,off+j*4+1,none⟩=some (.string fs[j].name)/\w.cell? ⟨b,off+j*4+2,none⟩=some (.string fs[j].text)/\w.cell? ⟨b,off+j*4+3,none⟩=some (.string fs[j].dst):=by
 obtain ⟨b,off,e,hb,hc⟩:=h (by rw [qoy];omega)
 exact ⟨b,off,e,hb,fun j hj=>⟨hc (j*4) _ (flat_get qcy fs j hj 0 (by omega)),hc (j*4+1) _ (flat_get qcy fs j hj 1 (by omega)),hc (j*4+2) _ (flat_get qcy fs j hj 2 (by omega)),hc (j*4+3) _ (flat_get qcy fs j hj 3 (by omega))⟩⟩
structure FM where
 name:ByteArray
 text:ByteArray
 kept:Int
instance:Inhabited FM:=⟨⟨⟨#[]⟩,⟨#[]⟩,0⟩⟩
abbrev fv (f:FM):Value:=.agg #[.string f.name,.string f.text,.int .i64 f.kept]
def qhw (f:FM):List Value:=[.string f.name,.string f.text,.int .i64 f.kept]
theorem qbi (f:FM):(qhw f).length=3:=rfl
def fcs (fs:List FM):List Value:=fs.flatMap qhw
theorem qly (fs:List FM):(fcs fs).length=fs.length*3:=qco qbi fs
abbrev FRow (w:World) (a:Option Addr) (fs:List FM):Prop:=CRow w a (fcs fs)
theorem FRow.at {fs:List FM} (h:FRow w a fs) (hp:0<fs.length) :
  ∃ b off,a=some ⟨b,off,none⟩/\b<w.heap.size/\∀ j (h:j<fs.length),w.cell? ⟨b,off+j*3,none⟩=some (.string fs[j].name)/\w.cell? ⟨b,off+j*3+1,none⟩=some (.string fs[j].text)/\w.cell? ⟨b,off+j*3+2,none⟩=some (.int .i64 fs[j].kept):=by
 obtain ⟨b,off,e,hb,hc⟩:=h (by rw [qly];omega)
 exact ⟨b,off,e,hb,fun j hj=>⟨hc (j*3) _ (flat_get qbi fs j hj 0 (by omega)),hc (j*3+1) _ (flat_get qbi fs j hj 1 (by omega)),hc (j*3+2) _ (flat_get qbi fs j hj 2 (by omega))⟩⟩
def FFit (fs:List FM):Prop:=fs.length<=9223372036854775807/\∀ f ∈ fs,f.name.size<=9223372036854775807/\f.text.size<=9223372036854775807/\-9223372036854775808<=f.kept/\f.kept<=9223372036854775807
def fsum:List FM->Nat
 | []=>0
 | f::fs=>f.name.size+f.text.size+fsum fs
theorem fsum_take (fs:List FM) (k:Nat) (h:k<fs.length):fsum (fs.take (k+1))=fsum (fs.take k)+(fs[k].name.size+fs[k].text.size):=by
 induction fs generalizing k with
 | nil=>simp at h
 | cons f fs ih =>
  cases k with
  | zero=>simp [fsum]
  | succ k =>
   have:=ih k (by simpa using h)
   simp only [List.take_succ_cons,fsum,List.getElem_cons_succ]
   omega
def qrm (left:Int) (n:Nat) (w:World) (e:Ending) (w':World):Prop:=∃ r:Int,e = .returned (.int .i64 r)/\-1<=r/\(0<=r->r+n=left)/\Below w.heap.size w w'
theorem szFile_any (f:FM) (left:Int) (w:World) (h0:0<=left) (h1:left<=1048576) (hn:f.name.size<=9223372036854775807) (ht:f.text.size<=9223372036854775807) :
  Calls Tryz.prog 96 #[fv f,.int .i64 left] w fun e w'=>qrm left (f.name.size+f.text.size) w e w':=by
 by_cases c1:left - f.name.size<0
 ·go_enter Tryz.func96,Tryz.ntmps96
  go_wp2_with fail
  go_ret
  exact ⟨-1,rfl,by omega,by omega,(Below.refl _ _).alloc (Nat.le_refl _) _⟩
 ·by_cases c2:left - f.name.size - f.text.size<0
  ·go_enter Tryz.func96,Tryz.ntmps96
   go_wp2_with fail
   go_ret
   exact ⟨-1,rfl,by omega,by omega,(Below.refl _ _).alloc (Nat.le_refl _) _⟩
  ·go_enter Tryz.func96,Tryz.ntmps96
   go_wp2_with fail
   go_ret
   exact ⟨left - f.name.size - f.text.size,rfl,by omega,by intro _;push_cast;omega,(Below.refl _ _).alloc (Nat.le_refl _) _⟩
theorem szFileS_any (a:Option Addr) (fs:List FM) (cap:Nat) (left:Int) (w:World) (hr:FRow w a fs) (hf:FFit fs) (h0:0<=left) (h1:left<=1048576) :
  Calls Tryz.prog 54 #[.slice a fs.length cap,.int .i64 left] w fun e w'=>qrm left (fs.length+fsum fs) w e w':=by
 have hl:=hf.1
 by_cases c1:left - fs.length<0
 ·clear hr hf
  go_enter Tryz.func54,Tryz.ntmps54
  go_wp2_with fail
  go_ret
  exact ⟨-1,rfl,by omega,by omega,Below.refl _ _⟩
 ·have HR:Hid (FRow w a fs):=hr
  have HF:Hid (FFit fs):=hf
  clear hr hf
  go_enter Tryz.func54,Tryz.ntmps54
  go_wp2_with fail
  go_loopw [1,5] (fun v i wr=>∃ (k:Nat) (l:Int),v = .int .i64 l/\i = .int .i64 k/\k<=fs.length/\0<=l/\l+fs.length+fsum (fs.take k)=left/\Below w.heap.size w wr) (fun _ i _=>fs.length - (intOf i).toNat)
  case atStart=>exact ⟨0,left - fs.length,rfl,rfl,Nat.zero_le _,by omega,by simp [fsum],Below.refl _ _⟩
  case round =>
   obtain ⟨k,l,rfl,rfl,hk,hl0,hsum,hb⟩:=hrel
   by_cases hlt:k<fs.length
   ·obtain ⟨b,off,rfl,hbl,hc⟩:=FRow.at (HR.out.stays hb) (by omega)
    obtain ⟨d0,d1,d2⟩:=hc k hlt
    have HS:Hid (l+fs.length+fsum (fs.take k)=left):=hsum
    have hst:=fsum_take fs k hlt
    have HST:Hid (fsum (fs.take (k+1))=fsum (fs.take k)+(fs[k].name.size+fs[k].text.size)):=hst
    have hfk:=HF.out.2 fs[k] (List.getElem_mem hlt)
    obtain ⟨f,hfe⟩:∃ f,f=fs[k]:=⟨_,rfl⟩
    rw [<-hfe] at d0 d1 d2 hfk
    have HFE:Hid (f=fs[k]):=hfe
    have HB:Hid (Below w.heap.size w wr):=hb
    have hl1:l<=1048576:=by omega
    have k0:(0:Int)<=(k:Int):=by omega
    have k1:(k:Int)<(fs.length:Int):=by omega
    clear hc hsum hst hfe hb
    go_wp2_with fail
    refine (szFile_any f l _ hl0 hl1 hfk.1 hfk.2.1).mono ?_
    rintro e w2 ⟨r,rfl,hr1,hr2,hb2⟩
    have HB2:Hid (Below w.heap.size w w2):=HB.out.trans (hb2.mono HB.out.size)
    clear hb2
    by_cases hr:r<0
    ·go_wp2_with fail
     go_ret
     exact ⟨-1,rfl,by omega,by omega,HB2.out⟩
    ·have hr3:=hr2 (by omega)
     have HR3:Hid (r+((f.name.size+f.text.size:Nat):Int)=l):=hr3
     clear hr2 hr3
     go_wp2_with fail
     go_roundw
     case rel=>exact ⟨k+1,r,rfl,by go_num,by omega,by omega,by rw [HST.out,<-HFE.out];have:=HR3.out;have:=HS.out;push_cast at *;omega,HB2.out⟩
     case measure=>simp [intOf];omega
   ·obtain rfl:k=fs.length:=by omega
    rw [List.take_length] at hsum
    go_wp2_with fail
    go_ret
    exact ⟨l,rfl,by omega,by intro _;push_cast;omega,hb⟩
theorem szDisk_any (a:Option Addr) (fs:List FM) (cap:Nat) (left:Int) (w:World) (hr:FRow w a fs) (hf:FFit fs) (h0:0<=left) (h1:left<=1048576) :
  Calls Tryz.prog 19 #[.agg #[.slice a fs.length cap],.int .i64 left] w fun e w'=>qrm left (fs.length+fsum fs) w e w':=by
 have HR:Hid (FRow (w.alloc (.cells #[.slice a fs.length cap] 55)) a fs):=hr.stays ((Below.refl _ _).alloc (Nat.le_refl _) _)
 have HF:Hid (FFit fs):=hf
 clear hr hf
 go_enter Tryz.func19,Tryz.ntmps19
 go_wp2_with fail
 refine (szFileS_any a fs cap left _ HR.out HF.out h0 h1).mono ?_
 rintro e w2 ⟨r,rfl,hr1,hr2,hb2⟩
 have HB2:Hid (Below w.heap.size w w2):=((Below.refl _ _).alloc (Nat.le_refl _) _).trans (hb2.mono (by simp))
 have HR2:Hid (0<=r->r+((fs.length+fsum fs:Nat):Int)=left):=hr2
 clear hb2 hr2
 by_cases hr:r<0
 ·go_wp2_with fail
  go_ret
  exact ⟨-1,rfl,by omega,by omega,HB2.out⟩
 ·go_wp2_with fail
  go_ret
  exact ⟨r,rfl,hr1,HR2.out,HB2.out⟩
theorem toFile_any (f:FM) (w:World) :
  Calls Tryz.prog 97 #[fv f] w fun e w'=>e = .returned (fv f)/\Below w.heap.size w w':=by
 go_enter Tryz.func97,Tryz.ntmps97
 go_wp2_with fail
 refine bodyPost_ret (v:=fv f) (by simp [results,Tryz.results97,go_sem]) rfl ⟨rfl,?_⟩
 exact (((Below.refl _ _).alloc (Nat.le_refl _) _).alloc (by simp) _).alloc (by simp;omega) _
def ToPost (fs:List FM) (w:World) (e:Ending) (w':World):Prop:=∃ g,e = .returned (.slice (some ⟨g,0,none⟩) fs.length fs.length)/\w.heap.size<=g/\WCells w' g (fcs fs)/\Below w.heap.size w w'
theorem infoFile:(Tryz.prog.info? 116).map (fun i=>(i.zero,i.size,i.bytes))=some (some (.agg #[.string ⟨#[]⟩,.string ⟨#[]⟩,.int .i64 0]),3,40):=by kernel_rfl
theorem toFileS_any (a:Option Addr) (fs:List FM) (cap:Nat) (w:World) (hr:FRow w a fs) (hf:FFit fs) (hl:fs.length<=1048576) :
  Calls Tryz.prog 55 #[.slice a fs.length cap] w fun e w'=>ToPost fs w e w':=by
 obtain ⟨i0,hi,hz0,hz1,hz2⟩:=info_parts infoFile
 have HR:Hid (FRow w a fs):=hr
 have HF:Hid (FFit fs):=hf
 clear hr hf
 go_enter Tryz.func55,Tryz.ntmps55
 go_wp2_with (at_make;refine wpList_make_full _ rfl _ _ 26 rfl w.heap.size 116 i0 _ 3 Tryz.underlying26 hi hz0 hz1 .i64 .i64 _ _ fs.length rfl rfl (by omega) (by omega) ?b2 ?b3 ?b4 ?_)
 case b2=>rw [hz2];omega
 case b3=>unfold maxLen;omega
 case b4=>omega
 intro wm hownm hgrm
 have hbm:Below w.heap.size w wm:=(Below.refl _ _).grown hgrm (Nat.le_refl _) (fun j hj=>by simp at hj)
 have hrow:WCells wm w.heap.size (fcs (List.replicate fs.length default)):=by
  have h:=qar hownm
  have e:(madeCells #[.string ⟨#[]⟩,.string ⟨#[]⟩,.int .i64 0] (fs.length*3)).toList=fcs (List.replicate fs.length default):=made_flat qbi (by decide) #[.string ⟨#[]⟩,.string ⟨#[]⟩,.int .i64 0] default rfl _
  rw [e] at h;exact h
 clear hownm hgrm
 go_wp2_with fail
 go_loopw [4] (fun i wr=>∃ (k:Nat) (gs:List FM),i = .int .i64 k/\k<=fs.length/\gs.length=fs.length/\gs.take k=fs.take k/\WCells wr w.heap.size (fcs gs)/\Below w.heap.size w wr) (fun i _=>fs.length - (intOf i).toNat)
 case atStart=>exact ⟨0,_,rfl,by omega,by simp,by simp,hrow,hbm⟩
 case round =>
  clear hrow hbm
  obtain ⟨k,gs,rfl,hk,hgl,hgt,hw,hb⟩:=hrel
  by_cases hlt:k<fs.length
  ·obtain ⟨b,off,rfl,hbl,hc⟩:=FRow.at HR.out (by omega)
   obtain ⟨d0,d1,d2⟩:=hc k hlt
   rw [<-hb.cell (p:=⟨b,off+k*3,none⟩) hbl] at d0
   rw [<-hb.cell (p:=⟨b,off+k*3+1,none⟩) hbl] at d1
   rw [<-hb.cell (p:=⟨b,off+k*3+2,none⟩) hbl] at d2
   obtain ⟨f,hfe⟩:∃ f,f=fs[k]:=⟨_,rfl⟩
   rw [<-hfe] at d0 d1 d2
   have k0:(0:Int)<=(k:Int):=by omega
   have k1:(k:Int)<(fs.length:Int):=by omega
   have HFE:Hid (f=fs[k]):=hfe
   have HG:Hid (gs.length=fs.length/\gs.take k=fs.take k):=⟨hgl,hgt⟩
   clear hc hfe hgl hgt
   go_wp2_with fail
   refine (toFile_any f _).mono ?_
   rintro e w2 ⟨rfl,hb2⟩
   have hw2:=hw.below hb2 hw.1
   have hb3:Below w.heap.size w w2:=hb.trans (hb2.mono hb.size)
   clear hw hb hb2 d0 d1 d2
   have hgk:k<gs.length:=by have:=HG.out.1;omega
   obtain ⟨c0,z0⟩:=hw2.2 (k*3) _ (flat_get qbi gs k hgk 0 (by omega))
   obtain ⟨c1,z1⟩:=hw2.2 (k*3+1) _ (flat_get qbi gs k hgk 1 (by omega))
   obtain ⟨c2,z2⟩:=hw2.2 (k*3+2) _ (flat_get qbi gs k hgk 2 (by omega))
   have HW:Hid (WCells w2 w.heap.size (fcs gs)):=hw2
   clear hw2
   have hset:=HW.out.setElem qbi k hgk f
   have hbn:=below_setW hb3 (Nat.le_refl _) (k*3) (qhw f)
   have HS:Hid (WCells (setW w2 w.heap.size (k*3) (qhw f)) w.heap.size (fcs (gs.set k f))):=hset
   have HBN:Hid (Below w.heap.size w (setW w2 w.heap.size (k*3) (qhw f))):=hbn
   clear hset hbn
   go_wp2_with fail
   go_roundw
   case rel =>
    refine ⟨k+1,gs.set k f,by go_num,by omega,by rw [List.length_set];exact HG.out.1,?_,HS.out,HBN.out⟩
    rw [List.take_succ_eq_append_getElem (by rw [List.length_set];exact hgk),List.take_succ_eq_append_getElem hlt,List.take_set_of_le (Nat.le_refl _),HG.out.2,List.getElem_set_self,HFE.out]
   case measure=>simp [intOf];omega
  ·have e:gs=fs:=by
    rw [List.take_of_length_le (by omega),List.take_of_length_le (by omega)] at hgt;exact hgt
   subst e
   go_wp2_with fail
   go_ret
   exact ⟨_,rfl,Nat.le_refl _,hw,hb⟩
def qpe (fs:List FM) (w:World) (e:Ending) (w':World):Prop:=∃ g,e = .returned (.agg #[.slice (some ⟨g,0,none⟩) fs.length fs.length])/\w.heap.size<=g/\WCells w' g (fcs fs)/\Below w.heap.size w w'
theorem qkn (a:Option Addr) (fs:List FM) (cap:Nat) (w:World) (hr:FRow w a fs) (hf:FFit fs) (hl:fs.length<=1048576) :
  Calls Tryz.prog 20 #[.agg #[.slice a fs.length cap]] w fun e w'=>qpe fs w e w':=by
 have hb0:Below w.heap.size w (((w.alloc (.cells #[.slice a fs.length cap] 55)).alloc (.cells #[.slice none 0 0] 28)).alloc (.cells #[.slice none 0 0] 28)):=(((Below.refl _ _).alloc (Nat.le_refl _) _).alloc (by simp) _).alloc (by simp;omega) _
 have HR:Hid (FRow (((w.alloc (.cells #[.slice a fs.length cap] 55)).alloc (.cells #[.slice none 0 0] 28)).alloc (.cells #[.slice none 0 0] 28)) a fs):=hr.stays hb0
 have HB0:Hid (Below w.heap.size w (((w.alloc (.cells #[.slice a fs.length cap] 55)).alloc (.cells #[.slice none 0 0] 28)).alloc (.cells #[.slice none 0 0] 28))):=hb0
 have HF:Hid (FFit fs):=hf
 clear hr hf hb0
 go_enter Tryz.func20,Tryz.ntmps20
 go_wp2_with fail
 refine (toFileS_any a fs cap _ HR.out HF.out hl).mono ?_
 rintro e w2 ⟨g,rfl,hg,hw,hb⟩
 have hg3:w.heap.size+3<=g:=by simpa using hg
 have r1:=(((qad (w.alloc (.cells #[.slice a fs.length cap] 55)) #[.slice none 0 0] 28).alloc (.cells #[.slice none 0 0] 28)).grow hb).2 0 _ rfl
 have r2:=((qad ((w.alloc (.cells #[.slice a fs.length cap] 55)).alloc (.cells #[.slice none 0 0] 28)) #[.slice none 0 0] 28).grow hb).2 0 _ rfl
 simp only [World.size_alloc] at r1 r2
 obtain ⟨c1,f1⟩:=r1
 obtain ⟨c2,f2⟩:=r2
 have HW:Hid (WCells w2 g (fcs fs)):=hw
 have HB:Hid (Below w.heap.size w w2):=HB0.out.trans (hb.mono (by simp;omega))
 clear hw hb hg
 go_wp2_with fail
 refine bodyPost_ret (v:=.agg #[.slice (some ⟨g,0,none⟩) fs.length fs.length]) (by simp [results,Tryz.results20,go_sem,c1]) rfl ⟨g,rfl,by omega,(HW.out.other _ _ (by simp;omega)).other _ _ (by simp;omega),(HB.out.setCell (by simp;omega) _).setCell (by simp) _⟩
theorem eqFile_same (f:FM) (w:World) :
  Calls Tryz.prog 99 #[fv f,fv f] w fun e w'=>e = .returned (.bool true)/\Below w.heap.size w w':=by
 go_enter Tryz.func99,Tryz.ntmps99
 go_wp2_with fail
 go_ret
 exact ⟨rfl,((Below.refl _ _).alloc (Nat.le_refl _) _).alloc (by simp) _⟩
theorem eqFileS_same (a b:Option Addr) (fs:List FM) (ca cb:Nat) (w:World) (ha:FRow w a fs) (hb:FRow w b fs) (hl:fs.length<=1048576) :
  Calls Tryz.prog 58 #[.slice a fs.length ca,.slice b fs.length cb] w fun e w'=>e = .returned (.bool true)/\Below w.heap.size w w':=by
 have HA:Hid (FRow w a fs):=ha
 have HB:Hid (FRow w b fs):=hb
 clear ha hb
 go_enter Tryz.func58,Tryz.ntmps58
 go_wp2_with fail
 go_loopw [5] (fun i wr=>∃ (k:Nat),i = .int .i64 k/\k<=fs.length/\Below w.heap.size w wr) (fun i _=>fs.length - (intOf i).toNat)
 case atStart=>exact ⟨0,rfl,Nat.zero_le _,Below.refl _ _⟩
 case round =>
  obtain ⟨k,rfl,hk,hbl⟩:=hrel
  by_cases hlt:k<fs.length
  ·obtain ⟨b1,o1,rfl,l1,hc1⟩:=FRow.at (HA.out.stays hbl) (by omega)
   obtain ⟨b2,o2,rfl,l2,hc2⟩:=FRow.at (HB.out.stays hbl) (by omega)
   obtain ⟨d0,d1,d2⟩:=hc1 k hlt
   obtain ⟨e0,e1,e2⟩:=hc2 k hlt
   obtain ⟨f,hfe⟩:∃ f,f=fs[k]:=⟨_,rfl⟩
   rw [<-hfe] at d0 d1 d2 e0 e1 e2
   have HS:Hid (Below w.heap.size w wr):=hbl
   have k0:(0:Int)<=(k:Int):=by omega
   have k1:(k:Int)<(fs.length:Int):=by omega
   clear hc1 hc2 hfe hbl
   go_wp2_with fail
   go_region_held3 (fun w'=>w'.cell? ⟨b1,o1+k*3,none⟩=some (.string f.name)/\w'.cell? ⟨b1,o1+k*3+1,none⟩=some (.string f.text)/\w'.cell? ⟨b1,o1+k*3+2,none⟩=some (.int .i64 f.kept)/\w'.cell? ⟨b2,o2+k*3,none⟩=some (.string f.name)/\w'.cell? ⟨b2,o2+k*3+1,none⟩=some (.string f.text)/\w'.cell? ⟨b2,o2+k*3+2,none⟩=some (.int .i64 f.kept))
    (first | go_keep | (refine ⟨?_,?_,?_,?_,?_,?_⟩ <;> first | (rw [hb2.cell (by exact l1)];simp [*]) | (rw [hb2.cell (by exact l2)];simp [*])))
    ((go_at_call 99;refine (eqFile_same f _).mono ?_;rintro e w2 ⟨rfl,hb2⟩))
   all_goals go_wp2_with fail
   all_goals
    have hb3:Below w.heap.size w w2:=HS.out.trans ((Below.drew (Below.refl _ _)).trans (hb2.mono HS.out.size))
    exact ⟨⟨k+1,by go_num,by omega,hb3⟩,by simp [intOf];omega⟩
  ·have e:k=fs.length:=by omega
   subst e
   go_wp2_with fail
   go_ret
   exact ⟨rfl,hbl⟩
theorem qio (a b:Option Addr) (fs:List FM) (ca cb:Nat) (w:World) (ha:FRow w a fs) (hb:FRow w b fs) (hl:fs.length<=1048576) :
  Calls Tryz.prog 23 #[.agg #[.slice a fs.length ca],.agg #[.slice b fs.length cb]] w fun e w'=>e = .returned (.bool true)/\Below w.heap.size w w':=by
 have hb0:Below w.heap.size w ((w.alloc (.cells #[.slice a fs.length ca] 28)).alloc (.cells #[.slice b fs.length cb] 28)):=((Below.refl _ _).alloc (Nat.le_refl _) _).alloc (by simp) _
 have HA:Hid (FRow ((w.alloc (.cells #[.slice a fs.length ca] 28)).alloc (.cells #[.slice b fs.length cb] 28)) a fs):=ha.stays hb0
 have HB:Hid (FRow ((w.alloc (.cells #[.slice a fs.length ca] 28)).alloc (.cells #[.slice b fs.length cb] 28)) b fs):=hb.stays hb0
 have HB0:Hid (Below w.heap.size w ((w.alloc (.cells #[.slice a fs.length ca] 28)).alloc (.cells #[.slice b fs.length cb] 28))):=hb0
 clear ha hb hb0
 go_enter Tryz.func23,Tryz.ntmps23
 go_wp2_with fail
 refine (eqFileS_same a b fs ca cb _ HA.out HB.out hl).mono ?_
 rintro e w2 ⟨rfl,hb2⟩
 have HB2:Hid (Below w.heap.size w w2):=HB0.out.trans (hb2.mono HB0.out.size)
 clear hb2
 go_wp2_with fail
 go_ret
 exact ⟨rfl,HB2.out⟩
theorem qko (x l m:Int) (w:World) :
  Calls Tryz.prog 52 #[.int .i64 x,.int .i64 l,.int .i64 m] w fun e w'=>e = .returned (.bool (decide (l<=x/\x<=m)))/\w'=w:=by
 by_cases c1:l<=x
 ·by_cases c2:x<=m
  ·go_enter Tryz.func52,Tryz.ntmps52
   go_wp2_with fail
   go_ret
   exact ⟨by rw [decide_eq_true ⟨c1,c2⟩];rfl,rfl⟩
  ·go_enter Tryz.func52,Tryz.ntmps52
   go_wp2_with fail
   go_ret
   exact ⟨by rw [decide_eq_false (by omega)];rfl,rfl⟩
 ·have c1':decide (l<=x)=false:=by simp;omega
  have e:decide (l<=x/\x<=m)=false:=decide_eq_false (fun h=>c1 h.1)
  rw [e]
  clear e
  go_enter Tryz.func52,Tryz.ntmps52
  go_wp2_with fail
  go_ret
  exact ⟨rfl,rfl⟩
theorem l03Name_any (s:ByteArray) (w:World) :
  Calls Tryz.prog 71 #[.string s] w fun e w'=>e = .returned (.bool (decide (1<=s.size/\s.size<=8)))/\w'=w:=by
 have e:decide ((1:Int)<=(s.size:Int)/\(s.size:Int)<=8)=decide (1<=s.size/\s.size<=8):=decide_eq_decide.2 (by omega)
 rw [<-e]
 generalize hd:decide ((1:Int)<=(s.size:Int)/\(s.size:Int)<=8)=d
 have HD:Hid (decide ((1:Int)<=(s.size:Int)/\(s.size:Int)<=8)=d):=hd
 clear e hd
 go_enter Tryz.func71,Tryz.ntmps71
 go_wp2_with fail
 refine (qko _ _ _ _).mono ?_
 rw [HD.out]
 rintro e w2 ⟨rfl,rfl⟩
 go_wp2_with fail
 go_ret
 exact ⟨rfl,rfl⟩
def FOk (f:FM):Prop:=(1<=f.name.size/\f.name.size<=8)/\f.text.size<=20000/\0<=f.kept/\f.kept<=f.text.size
def FAt (fs:List FM) (k:Nat):Prop:=FOk (fs.getD k default)/\(0<k->Op.bytesLess (fs.getD (k - 1) default).name.toList (fs.getD k default).name.toList=true)
def DOk (fs:List FM):Prop:=fs.length<=30/\∀ k,k<fs.length->FAt fs k
open Classical in
noncomputable def dOkB (fs:List FM):Bool:=decide (DOk fs)
theorem qpx {fs:List FM} (h:DOk fs):dOkB fs=true:=by unfold dOkB;simp [h]
theorem qej {fs:List FM} (h:¬ DOk fs):dOkB fs=false:=by unfold dOkB;simp [h]
theorem qbn (fs:List FM) (k:Nat) (h:k<fs.length):fs.getD k default=fs[k]:=by simp [List.getD,h]
theorem qcz (s:ByteArray) (w:World) (b:Bool) (h:decide (1<=s.size/\s.size<=8)=b):Calls Tryz.prog 71 #[.string s] w fun e w'=>e = .returned (.bool b)/\w'=w:=by
 have:=l03Name_any s w
 rwa [h] at this
theorem qid (x l m:Int) (w:World) (b:Bool) (h:decide (l<=x/\x<=m)=b):Calls Tryz.prog 52 #[.int .i64 x,.int .i64 l,.int .i64 m] w fun e w'=>e = .returned (.bool b)/\w'=w:=by
 have:=qko x l m w
 rwa [h] at this
theorem specDiskOk (a:Option Addr) (fs:List FM) (cap:Nat) (w:World) (hr:FRow w a fs) (hf:FFit fs) (hl:fs.length<=1048576) :
  Calls Tryz.prog 41 #[.agg #[.slice a fs.length cap]] w fun e w'=>e = .returned (.bool (dOkB fs))/\Below w.heap.size w w':=by
 have hb0:Below w.heap.size w (w.alloc (.cells #[.slice a fs.length cap] 28)):=(Below.refl _ _).alloc (Nat.le_refl _) _
 by_cases h30:30<fs.length
 ·rw [qej (fun h=>by have:=h.1;omega)]
  have h30':(30:Int)<(fs.length:Int):=by omega
  clear hr hf
  go_enter Tryz.func41,Tryz.ntmps41
  go_wp2_with fail
  go_ret
  exact ⟨rfl,hb0⟩
 ·have h30':¬ (30:Int)<(fs.length:Int):=by omega
  have HR:Hid (FRow w a fs):=hr
  have HF:Hid (FFit fs):=hf
  have hbox:=qad w #[.slice a fs.length cap] 28
  have HX:Hid (WCells (w.alloc (.cells #[.slice a fs.length cap] 28)) w.heap.size [.slice a fs.length cap]):=hbox
  have HB0:Hid (Below w.heap.size w (w.alloc (.cells #[.slice a fs.length cap] 28))):=hb0
  clear hr hf hbox hb0
  generalize hO:dOkB fs=O
  have HO:Hid (dOkB fs=O):=hO
  clear hO
  go_enter Tryz.func41,Tryz.ntmps41
  go_wp2_with fail
  go_loopw [3] (fun i wr=>∃ (k:Nat),i = .int .i64 k/\k<=fs.length/\(∀ j,j<k->FAt fs j)/\WCells wr w.heap.size [.slice a fs.length cap]/\Below w.heap.size w wr) (fun i _=>fs.length - (intOf i).toNat)
  case atStart=>exact ⟨0,rfl,Nat.zero_le _,fun j hj=>by omega,HX.out,HB0.out⟩
  case round =>
   obtain ⟨k,rfl,hk,hgood,hx,hb⟩:=hrel
   have HGD:Hid (∀ j,j<k->FAt fs j):=hgood
   have x0:=(hx.2 0 _ rfl).1
   by_cases hlt:k<fs.length
   ·obtain ⟨b,off,rfl,lb,hc⟩:=FRow.at (HR.out.stays hb) (by omega)
    obtain ⟨d0,d1,d2⟩:=hc k hlt
    obtain ⟨f,hfe⟩:∃ f,f=fs[k]:=⟨_,rfl⟩
    rw [<-hfe] at d0 d1 d2
    have HFE:Hid (fs.getD k default=f):=(qbn fs k hlt).trans hfe.symm
    have k0:(0:Int)<=(k:Int):=by omega
    have k1:(k:Int)<(fs.length:Int):=by omega
    have hbx:Below w.heap.size w (wr.alloc (.cells #[.string f.name,.string f.text,.int .i64 f.kept] 116)):=hb.alloc hb.size _
    have HBX:Hid (Below w.heap.size w (wr.alloc (.cells #[.string f.name,.string f.text,.int .i64 f.kept] 116))):=hbx
    have hxx:=hx.alloc (.cells #[.string f.name,.string f.text,.int .i64 f.kept] 116)
    have HXX:Hid (WCells (wr.alloc (.cells #[.string f.name,.string f.text,.int .i64 f.kept] 116)) w.heap.size [.slice (some ⟨b,off,none⟩) fs.length cap]):=hxx
    have y0:=(hxx.2 0 _ rfl).1
    have HXN:∀ q,WCells ((wr.alloc (.cells #[.string f.name,.string f.text,.int .i64 f.kept] 116)).drewN q) w.heap.size [.slice (some ⟨b,off,none⟩) fs.length cap]:=fun q=>hxx
    have HBN:∀ q,Below w.heap.size w ((wr.alloc (.cells #[.string f.name,.string f.text,.int .i64 f.kept] 116)).drewN q):=fun q=>hbx.trans ⟨rfl,rfl,rfl,Nat.le_refl _,fun _ _=>rfl⟩
    have lb':b<wr.heap.size:=lb
    clear hfe hbx hxx hx
    by_cases hA:decide (1<=f.name.size/\f.name.size<=8)=true
    ·by_cases hB:f.text.size<=20000
     ·have hB':decide ((20000:Int)<(f.text.size:Int))=false:=by simp;omega
      by_cases hC:decide (0<=f.kept/\f.kept<=(f.text.size:Int))=true
      ·by_cases hk0:0<k
       ·obtain ⟨p0,_,_⟩:=hc (k - 1) (by omega)
        obtain ⟨f1,hf1⟩:∃ f1,f1=fs[k - 1]:=⟨_,rfl⟩
        rw [<-hf1] at p0
        have HF1:Hid (fs.getD (k - 1) default=f1):=(qbn fs (k - 1) (by omega)).trans hf1.symm
        have q0:(wr.alloc (.cells #[.string f.name,.string f.text,.int .i64 f.kept] 116)).cell? ⟨b,off+(k - 1)*3,none⟩=some (.string f1.name):=(((Below.refl _ _).alloc (Nat.le_refl _) _:Below wr.heap.size wr (wr.alloc (.cells #[.string f.name,.string f.text,.int .i64 f.kept] 116))).cell (p:=⟨b,off+(k - 1)*3,none⟩) lb').trans p0
        have hkp:(0:Int)<(k:Int):=by omega
        have hk1:(k:Int) - 1=((k - 1:Nat):Int):=by omega
        have hk2:(0:Int)<=((k - 1:Nat):Int):=by omega
        have hk3:((k - 1:Nat):Int)<(fs.length:Int):=by omega
        clear hc hf1 p0
        by_cases hD:Op.bytesLess f1.name.toList f.name.toList=true
        ·go_wp2_with fail
         go_quiet (first
          | (go_at_call 71;exact Calls.quiet_of_same (qcz _ _ true hA))
          | (go_at_call 52;exact Calls.quiet_of_same (qid _ _ _ _ true hC)))
         go_wp2_with fail
         go_roundw
         case rel=>exact ⟨k+1,by go_num,by omega,fun j hj=>by rcases Nat.lt_succ_iff_lt_or_eq.1 hj with h | h;exact HGD.out j h;subst h;exact ⟨by rw [HFE.out];exact ⟨of_decide_eq_true hA,hB,(of_decide_eq_true hC).1,(of_decide_eq_true hC).2⟩,fun _=>by rw [HFE.out,HF1.out];exact hD⟩,HXN _,HBN _⟩
         case measure=>simp [intOf];omega
        ·have hD':Op.bytesLess f1.name.toList f.name.toList=false:=by simpa using hD
         go_wp2_with fail
         go_quiet (first
          | (go_at_call 71;exact Calls.quiet_of_same (qcz _ _ true hA))
          | (go_at_call 52;exact Calls.quiet_of_same (qid _ _ _ _ true hC)))
         go_wp2_with fail
         go_ret
         exact ⟨congrArg (fun b=>Ending.returned (.bool b)) ((HO.out.symm.trans (qej (fun h=>hD (by have h2:=(h.2 k hlt).2 hk0;rw [HFE.out,HF1.out] at h2;exact h2)))).symm),HBN _⟩
       ·have hkn:decide ((0:Int)<(k:Int))=false:=by simp;omega
        clear hc
        go_wp2_with fail
        go_quiet (first
         | (go_at_call 71;exact Calls.quiet_of_same (qcz _ _ true hA))
         | (go_at_call 52;exact Calls.quiet_of_same (qid _ _ _ _ true hC)))
        go_wp2_with fail
        go_roundw
        case rel=>exact ⟨k+1,by go_num,by omega,fun j hj=>by rcases Nat.lt_succ_iff_lt_or_eq.1 hj with h | h;exact HGD.out j h;subst h;exact ⟨by rw [HFE.out];exact ⟨of_decide_eq_true hA,hB,(of_decide_eq_true hC).1,(of_decide_eq_true hC).2⟩,fun h=>absurd h hk0⟩,HXN _,HBN _⟩
        case measure=>simp [intOf];omega
      ·replace hC:decide (0<=f.kept/\f.kept<=(f.text.size:Int))=false:=by simpa using hC
       clear hc
       go_wp2_with fail
       go_quiet (first
        | (go_at_call 71;exact Calls.quiet_of_same (qcz _ _ true hA))
        | (go_at_call 52;exact Calls.quiet_of_same (qid _ _ _ _ false hC)))
       go_wp2_with fail
       go_ret
       exact ⟨congrArg (fun b=>Ending.returned (.bool b)) ((HO.out.symm.trans (qej (fun h=>of_decide_eq_false hC (by have h2:=(h.2 k hlt).1;rw [HFE.out] at h2;exact ⟨h2.2.2.1,h2.2.2.2⟩)))).symm),HBN _⟩
     ·have hB':decide ((20000:Int)<(f.text.size:Int))=true:=by simp;omega
      clear hc
      go_wp2_with fail
      go_quiet (first
       | (go_at_call 71;exact Calls.quiet_of_same (qcz _ _ true hA)))
      go_wp2_with fail
      go_ret
      exact ⟨congrArg (fun b=>Ending.returned (.bool b)) ((HO.out.symm.trans (qej (fun h=>hB (by have h2:=(h.2 k hlt).1;rw [HFE.out] at h2;exact h2.2.1)))).symm),HBN _⟩
    ·replace hA:decide (1<=f.name.size/\f.name.size<=8)=false:=by simpa using hA
     clear hc
     go_wp2_with fail
     go_quiet (first
      | (go_at_call 71;exact Calls.quiet_of_same (qcz _ _ false hA)))
     go_wp2_with fail
     go_ret
     exact ⟨congrArg (fun b=>Ending.returned (.bool b)) ((HO.out.symm.trans (qej (fun h=>of_decide_eq_false hA (by have h2:=(h.2 k hlt).1;rw [HFE.out] at h2;exact h2.1)))).symm),HBN _⟩
   ·have e:k=fs.length:=by omega
    subst e
    go_wp2_with fail
    go_ret
    exact ⟨congrArg (fun b=>Ending.returned (.bool b)) ((HO.out.symm.trans (qpx ⟨by omega,fun j hj=>HGD.out j (by omega)⟩)).symm),hb⟩
end Go.Proofs.YtoglebfiobofoaaGreatDoor
