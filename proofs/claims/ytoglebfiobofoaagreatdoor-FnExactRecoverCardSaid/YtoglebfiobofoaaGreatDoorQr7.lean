/- Texts of ours, laid one behind the other: SchQ, EdP, EdQ, EdR, EdS, EdX, LogA, TreS, TreT, TreN, TreU, TreW, TreX, TreY, ApM, ApA, ApF, ApH, EdU. -/
import Derived.Test.YtoglebfiobofoaaGreatDoorQrStI
import Derived.Test.YtoglebfiobofoaaGreatDoorQr2
import Derived.Test.YtoglebfiobofoaaGreatDoorQr3
import Derived.Test.YtoglebfiobofoaaGreatDoorQr1
import Derived.Test.YtoglebfiobofoaaGreatDoorQrTreR
import Derived.Test.YtoglebfiobofoaaGreatDoorQrCpB
import Derived.Maps.AppendAt
import Derived.WalkLawsBesides
import Derived.Deep.RegionHeld3
import Derived.BigQuiet
/- SchQ: . -/
namespace Go.Proofs.YtoglebfiobofoaaGreatDoor
set_option maxRecDepth 100000
set_option maxHeartbeats 16000000
open Go.RowKit BigFrame
attribute [local go_sem ↓] Go.wp_at_zero Go.wp_at_succ
theorem sch_in (s:Int):schOk s=inI s 1 3:=by
 cases h:schOk s with
 | true =>
  obtain rfl | rfl | rfl:=qgy h <;> rfl
 | false =>
  obtain ⟨h1,h2,h3⟩:=qqr h
  symm
  refine Bool.eq_false_iff.2 fun hc=>?_
  have:=inI_iff.1 hc
  omega
theorem qcq (s:Int) (w:World):Calls Tryz.prog 141 #[.int .i64 s] w fun e w'=>e = .returned (.bool (inI s 1 3))/\w'=w:=by
 have HS:=Sh.mk (fun W=>qse s W)
 unfold qgf at HS
 rw [sch_in] at HS
 generalize inI s 1 3=ok at *
 generalize schM s=m at *
 generalize schK s=k at *
 go_enter Tryz.func141,Tryz.ntmps141
 go_wp2_with fail
 refine (HS.1 _).mono ?_
 rintro e w1 ⟨rfl,rfl⟩
 go_wp2_with fail
 go_ret
 exact ⟨rfl,rfl⟩
theorem qir (p:ByteArray) (w:World) (hs:p.size<=1048576):Calls Tryz.prog 140 #[.string p] w fun e w'=>e = .returned (.bool (named p))/\Below w.heap.size w w':=by
 have HC:=Sh.mk (fun W=>qfz p W hs)
 unfold qel at HC
 have e0:named p=(qab p).2.2:=rfl
 rw [e0]
 generalize (qab p).2.2=a at *
 generalize (qab p).2.1=b at *
 generalize (qab p).1=c at *
 clear hs e0
 go_enter Tryz.func140,Tryz.ntmps140
 go_wp2_with fail
 refine (HC.1 _).mono ?_
 rintro e w1 ⟨rfl,hb⟩
 go_wp2_with fail
 go_ret
 exact ⟨rfl,hb⟩
def pathQ (e:EM):Bool:=if e.kind=10 then e.path.toList==[47] else if e.kind=5\/e.kind=6 then (e.path.toList==[47])||named e.path else named e.path
def destQ (e:EM):Bool:=if e.kind=3 then named e.dest else e.dest.toList==[]
def numQ (e:EM):Bool:=if e.kind=5 then inI e.num 1 3 else if e.kind=6 then inI e.num 0 1000 else if e.kind=7 then inI e.num 1 200 else e.num==0
def whoQ (e:EM):Bool:=if e.kind=2\/e.kind=9 then inI e.who 1 9 else e.who==0
theorem not_named_nil {p:ByteArray} (h:(p.toList==[])=true):named p=false:=by
 rw [Go.ByteArray.toList_eq,beq_iff_eq] at h
 have hp:p=⟨#[]⟩:=ByteArray.ext (Array.toList_inj.1 h)
 subst hp
 rfl
theorem edit_is (e:EM):qat e=(inI e.kind 1 10&&pathQ e&&destQ e&&numQ e&&whoQ e):=by
 unfold qat qhi qks pathQ destQ numQ whoQ
 have hn:=@not_named_nil e.dest
 generalize named e.dest=nd at *
 generalize named e.path=np at *
 generalize (e.path.toList==[47])=rt at *
 have hne:(e.dest.toList != []) = !(e.dest.toList==[]):=rfl
 rw [hne]
 generalize (e.dest.toList==[])=te at *
 generalize inI e.num 1 3=a1 at *
 generalize inI e.num 0 1000=a2 at *
 generalize inI e.num 1 200=a3 at *
 generalize inI e.who 1 9=a4 at *
 generalize (e.num==0)=a5 at *
 generalize (e.who==0)=a6 at *
 cases hk:inI e.kind 1 10 with
 | false=>simp
 | true =>
  have hk':=inI_iff.1 hk
  have hc:e.kind=1\/e.kind=2\/e.kind=3\/e.kind=4\/e.kind=5\/e.kind=6\/e.kind=7\/e.kind=8\/e.kind=9\/e.kind=10:=by omega
  rcases hc with h | h | h | h | h | h | h | h | h | h <;> rw [h] <;> simp <;> revert hn <;> cases nd <;> cases te <;> simp <;> cases np <;> cases rt <;> simp [Bool.and_comm]
theorem implPathQ (e:EM) (w:World) (hf:EFit e):Calls Tryz.prog 104 #[ev e] w fun r w'=>r = .returned (.bool (pathQ e))/\Below w.heap.size w w':=by
 have HN:=Sh.mk (fun W=>qir e.path W hf.1)
 have HR:Sh (pathQ e=if e.kind=10 then e.path.toList==[47] else if e.kind=5\/e.kind=6 then (e.path.toList==[47])||named e.path else named e.path):=⟨rfl⟩
 generalize pathQ e=R at *
 generalize named e.path=np at *
 obtain ⟨kind,path,dest,num,who⟩:=e
 dsimp only at *
 clear hf
 go_enter Tryz.func104,Tryz.ntmps104
 go_wp2_with (go_at_call 140;refine (HN.1 _).mono ?_;rintro r w1 ⟨rfl,hb1⟩)
 all_goals
  go_ret
  refine ⟨by rw [HR.1];(try simp only [beq_iff_eq,beq_eq_false_iff_ne,ne_eq] at *);simp [*],?_⟩
  first
   | exact (Below.refl _ _).alloc (Nat.le_refl _) _
   | exact ((Below.refl _ _).alloc (Nat.le_refl _) _).trans (hb1.mono (by simp))
theorem implDestQ (e:EM) (w:World) (hf:EFit e):Calls Tryz.prog 105 #[ev e] w fun r w'=>r = .returned (.bool (destQ e))/\Below w.heap.size w w':=by
 have HN:=Sh.mk (fun W=>qir e.dest W hf.2)
 have HR:Sh (destQ e=if e.kind=3 then named e.dest else e.dest.toList==[]):=⟨rfl⟩
 generalize destQ e=R at *
 generalize named e.dest=np at *
 obtain ⟨kind,path,dest,num,who⟩:=e
 dsimp only at *
 clear hf
 go_enter Tryz.func105,Tryz.ntmps105
 go_wp2_with (go_at_call 140;refine (HN.1 _).mono ?_;rintro r w1 ⟨rfl,hb1⟩)
 all_goals
  go_ret
  refine ⟨by rw [HR.1];(try simp only [beq_iff_eq,beq_eq_false_iff_ne,ne_eq] at *);simp [*],?_⟩
  first
   | exact (Below.refl _ _).alloc (Nat.le_refl _) _
   | exact ((Below.refl _ _).alloc (Nat.le_refl _) _).trans (hb1.mono (by simp))
theorem implNumQ (e:EM) (w:World):Calls Tryz.prog 106 #[ev e] w fun r w'=>r = .returned (.bool (numQ e))/\Below w.heap.size w w':=by
 have HR:Sh (numQ e=if e.kind=5 then inI e.num 1 3 else if e.kind=6 then (decide (0<=e.num)&&decide (e.num<=1000)) else if e.kind=7 then (decide (1<=e.num)&&decide (e.num<=200)) else e.num==0):=⟨rfl⟩
 generalize numQ e=R at *
 obtain ⟨kind,path,dest,num,who⟩:=e
 dsimp only at *
 go_enter Tryz.func106,Tryz.ntmps106
 go_wp2_with (go_at_call 141;refine (qcq _ _).mono ?_;rintro r w1 ⟨rfl,rfl⟩)
 all_goals
  go_ret
  refine ⟨by rw [HR.1];(try simp only [beq_iff_eq,beq_eq_false_iff_ne,ne_eq] at *);first | (simp [*];done) | (simp [*];omega),?_⟩
  exact (Below.refl _ _).alloc (Nat.le_refl _) _
theorem implWhoQ (e:EM) (w:World):Calls Tryz.prog 107 #[ev e] w fun r w'=>r = .returned (.bool (whoQ e))/\Below w.heap.size w w':=by
 have HR:Sh (whoQ e=if e.kind=2\/e.kind=9 then (decide (1<=e.who)&&decide (e.who<=9)) else e.who==0):=⟨rfl⟩
 generalize whoQ e=R at *
 obtain ⟨kind,path,dest,num,who⟩:=e
 dsimp only at *
 go_enter Tryz.func107,Tryz.ntmps107
 go_wp2_with fail
 all_goals
  go_ret
  refine ⟨by rw [HR.1];(try simp only [beq_iff_eq,beq_eq_false_iff_ne,ne_eq] at *);first | (simp [*];done) | (simp [*];omega),?_⟩
  exact (Below.refl _ _).alloc (Nat.le_refl _) _
theorem ec_new (w:World) (e:EM) (T:TypeId):EC w w.heap.size e (w.alloc (.cells #[.int .i64 e.kind,.string e.path,.string e.dest,.int .i64 e.num,.int .i64 e.who] T)):=by
 have h:=qad w #[.int .i64 e.kind,.string e.path,.string e.dest,.int .i64 e.num,.int .i64 e.who] T
 exact ⟨(h.2 0 _ rfl).1,(h.2 1 _ rfl).1,(h.2 2 _ rfl).1,(h.2 3 _ rfl).1,(h.2 4 _ rfl).1,⟨(Below.refl _ _).alloc (Nat.le_refl _) _⟩⟩
theorem qku (e:EM) (w:World) (hf:EFit e):Calls Tryz.prog 66 #[ev e] w fun r w'=>r = .returned (.bool (qat e))/\Below w.heap.size w w':=by
 have H1:=Sh.mk (fun W=>implPathQ e W hf)
 have H2:=Sh.mk (fun W=>implDestQ e W hf)
 have H3:=Sh.mk (fun W=>implNumQ e W)
 have H4:=Sh.mk (fun W=>implWhoQ e W)
 have HR:=Sh.mk (edit_is e)
 have HN:=Sh.mk (ec_new w e 33)
 generalize qat e=R at *
 generalize pathQ e=q1 at *
 generalize destQ e=q2 at *
 generalize numQ e=q3 at *
 generalize whoQ e=q4 at *
 unfold inI at HR
 obtain ⟨kind,path,dest,num,who⟩:=e
 dsimp only at *
 clear hf
 go_enter Tryz.func66,Tryz.ntmps66
 go_wp2_with (first
  | (go_at_call 104;refine (H1.1 _).mono ?_;rintro r w1 ⟨rfl,hb1⟩;obtain ⟨c0,c1,c2,c3,c4,hB⟩:=HN.1.below hb1;clear hb1;dsimp only at c0 c1 c2 c3 c4)
  | (go_at_call 105;refine (H2.1 _).mono ?_;rintro r w1 ⟨rfl,hb1⟩;obtain ⟨c0,c1,c2,c3,c4,hB⟩:=EC.below (e:=⟨kind,path,dest,num,who⟩) ⟨c0,c1,c2,c3,c4,hB⟩ hb1;clear hb1;dsimp only at c0 c1 c2 c3 c4)
  | (go_at_call 106;refine (H3.1 _).mono ?_;rintro r w1 ⟨rfl,hb1⟩;obtain ⟨c0,c1,c2,c3,c4,hB⟩:=EC.below (e:=⟨kind,path,dest,num,who⟩) ⟨c0,c1,c2,c3,c4,hB⟩ hb1;clear hb1;dsimp only at c0 c1 c2 c3 c4)
  | (go_at_call 107;refine (H4.1 _).mono ?_;rintro r w1 ⟨rfl,hb1⟩;obtain ⟨c0,c1,c2,c3,c4,hB⟩:=EC.below (e:=⟨kind,path,dest,num,who⟩) ⟨c0,c1,c2,c3,c4,hB⟩ hb1;clear hb1;dsimp only at c0 c1 c2 c3 c4))
 all_goals
  go_ret
  refine ⟨by rw [HR.1];first | (simp [*];done) | (simp [*];omega),?_⟩
  first
   | exact hB.1
   | exact (Below.refl _ _).alloc (Nat.le_refl _) _
end Go.Proofs.YtoglebfiobofoaaGreatDoor
/- EdS: . -/
namespace Go.Proofs.YtoglebfiobofoaaGreatDoor
set_option maxRecDepth 100000
set_option maxHeartbeats 16000000
open Go.RowKit
open Go.PlainAid (bt)
variable {s t:ByteArray} {a b n:Nat}
def progE (s:ByteArray):Option EM:=
 if 2<=s.size then
  match qan s 2 with
  | none=>none
  | some (p,a1)=>match qan s (a1:Nat) with
   | none=>none
   | some (t,a2)=>match qaq s (a2:Nat) with
    | none=>none
    | some (n,a3)=>if (a3=s.size/\qat ⟨bt s 0,p,t,(n:Nat),bt s 1⟩=true) then some ⟨bt s 0,p,t,(n:Nat),bt s 1⟩ else none
 else none
theorem qlz (s:ByteArray) (a b c:Nat) (h1:a<=b) (h2:b<=c):s.extract a b++s.extract b c=s.extract a c:=by
 rw [ByteArray.extract_append_extract,Nat.min_eq_left h1,Nat.max_eq_right h2]
theorem qis (h:qan s (a:Nat)=some (t,b)):a<=b/\b<=s.size/\s.extract a b=vb t.size++t:=by
 unfold qan at h
 cases hv:qaq s (a:Nat) with
 | none=>rw [hv] at h;cases h
 | some x =>
  obtain ⟨n,p⟩:=x
  have hb:=qce hv
  rw [hv] at h
  dsimp only at h
  unfold qaq at hv
  split at hv
  ·rename_i ha
   obtain ⟨h1,h2,h3⟩:=W.readVar_vt hv
   rw [Int.toNat_natCast] at h1 h3
   split at h
   ·rename_i hc
    cases h
    have hs:(s.extract p (p+n)).size=n:=by rw [ByteArray.size_extract];omega
    refine ⟨by omega,by omega,?_⟩
    rw [hs,<-qlz s a p (p+n) (by omega) (by omega),h3]
    rfl
   ·cases h
  ·cases hv
theorem var_bytes (h:qaq s (a:Nat)=some (n,b)):a<=b/\b<=s.size/\s.extract a b=vb n:=by
 have hb:=qce h
 unfold qaq at h
 split at h
 ·obtain ⟨h1,h2,h3⟩:=W.readVar_vt h
  rw [Int.toNat_natCast] at h1 h3
  exact ⟨by omega,hb.2,h3⟩
 ·cases h
theorem qqa {j:Nat} (h:j<s.size):UInt8.ofNat (bt s j).toNat=(lb s)[j]'h:=by
 rw [bt_at h]
 simp
theorem two_head (h:2<=s.size):s.extract 0 2=⟨#[UInt8.ofNat (bt s 0).toNat,UInt8.ofNat (bt s 1).toNat]⟩:=by
 rw [qqa (by omega),qqa (by omega)]
 apply ByteArray.ext
 apply Array.toList_inj.1
 show lb (s.extract 0 2)=_
 rw [ext_list]
 have hl:2<=(lb s).length:=h
 have key:∀ (L:List UInt8) (hL:2<=L.length),(L.drop 0).take (2 - 0)=[L[0],L[1]]:=fun L hL=>by
  match L,hL with
  | x::y::r,_=>rfl
 exact key (lb s) hl
theorem progE_text {s p t:ByteArray} {a1 a2 n a3:Nat} (h:2<=s.size) (h1:qan s 2=some (p,a1)) (h2:qan s (a1:Nat)=some (t,a2)) (h3:qaq s (a2:Nat)=some (n,a3)) :
  a3<=s.size/\s.extract 0 a3=editT ⟨bt s 0,p,t,(n:Nat),bt s 1⟩:=by
 obtain ⟨b1,c1,e1⟩:=qis (a:=2) h1
 obtain ⟨b2,c2,e2⟩:=qis h2
 obtain ⟨b3,c3,e3⟩:=var_bytes h3
 refine ⟨c3,?_⟩
 rw [<-qlz s 0 a2 a3 (by omega) b3,<-qlz s 0 a1 a2 (by omega) b2,<-qlz s 0 2 a1 (by omega) b1,e1,e2,e3,two_head h]
 unfold editT
 simp only [ByteArray.append_assoc,Int.toNat_natCast]
theorem readE_prog (s:ByteArray):readE s=match progE s with
  | some e=>(e,true)
  | none=>(zeroE,false):=by
 unfold readE progE
 by_cases h:2<=s.size
 ·rw [if_pos h]
  cases h1:qan s 2 with
  | none =>
   have e1:part1 s=(⟨#[]⟩,0,false):=by unfold part1;rw [h1];rfl
   rw [if_neg]
   unfold isE
   rw [e1]
   simp
  | some x =>
   obtain ⟨p,a1⟩:=x
   have e1:part1 s=(p,a1,true):=by unfold part1;rw [h1];rfl
   dsimp only
   cases h2:qan s (a1:Nat) with
   | none =>
    have e2:part2 s=(⟨#[]⟩,0,false):=by unfold part2;rw [e1,h2];rfl
    rw [if_neg]
    unfold isE
    rw [e2]
    simp
   | some x =>
    obtain ⟨t,a2⟩:=x
    have e2:part2 s=(t,a2,true):=by unfold part2;rw [e1,h2];rfl
    dsimp only
    cases h3:qaq s (a2:Nat) with
    | none =>
     have e3:part3 s=(0,0,false):=by unfold part3;rw [e2,h3];rfl
     rw [if_neg]
     unfold isE
     rw [e3]
     simp
    | some x =>
     obtain ⟨n,a3⟩:=x
     have e3:part3 s=(n,a3,true):=by unfold part3;rw [e2,h3];rfl
     obtain ⟨hle,ht⟩:=progE_text h h1 h2 h3
     have ew:qev s=⟨bt s 0,p,t,(n:Nat),bt s 1⟩:=by unfold qev;rw [e1,e2,e3]
     unfold isE
     rw [e1,e2,e3,ew]
     dsimp only
     rw [<-ht]
     have hi:(s.extract 0 a3=s)↔a3=s.size:=by
      constructor
      ·intro e
       have:=congrArg ByteArray.size e
       rw [ByteArray.size_extract] at this
       omega
      ·rintro rfl
       exact ByteArray.extract_zero_size
     by_cases ha:a3=s.size
     ·simp [ha,h]
      split <;> rfl
     ·simp [hi,ha]
 ·rw [if_neg h,if_neg]
  unfold isE
  simp [h]
end Go.Proofs.YtoglebfiobofoaaGreatDoor
/- LogA: . -/
namespace Go.Proofs.YtoglebfiobofoaaGreatDoor
set_option maxRecDepth 100000
set_option maxHeartbeats 16000000
open Go.RowKit
attribute [local go_sem ↓] Go.wp_at_zero Go.wp_at_succ
def nmLog:ByteArray:=⟨#[108,111,103]⟩
def logA (e:EM):List AM:=if qat e then [⟨1,nmLog,qdf (editT e),⟨#[]⟩⟩,⟨2,nmLog,⟨#[]⟩,⟨#[]⟩⟩] else []
def LgaPost (e:EM) (w:World) (r:Ending) (w':World):Prop:=
 ∃ v,r = .returned (.tuple #[v,.bool (qat e)])/\w'.ownsRow w.heap.size 37 4 v (logA e).length (acs (logA e))/\Below w.heap.size w w'
theorem LgaPost.no {e:EM} {w w1:World} {v:Value} (h:qat e=false) (hb:Below w.heap.size w w1) (ho:w1.ownsRow w.heap.size 37 4 v 0 []):LgaPost e w (.returned (.tuple #[v,.bool false])) w1:=by
 have e1:logA e=[]:=by unfold logA;rw [if_neg (by simp [h])]
 exact ⟨_,by rw [h],by rw [e1];exact ho,hb⟩
end Go.Proofs.YtoglebfiobofoaaGreatDoor
/- TreS: . -/
namespace Go.Proofs.YtoglebfiobofoaaGreatDoor
set_option maxRecDepth 100000
set_option maxHeartbeats 16000000
open Go.RowKit
attribute [local go_sem ↓] Go.wp_at_zero Go.wp_at_succ
attribute [local irreducible] nodeOk
variable {T:TM}
theorem qht (h:inI (T.nodes.length:Int) 1 14=false):qae T=false:=by
 unfold qae
 unfold inI at h
 have:(decide (1<=T.nodes.length)&&decide (T.nodes.length<=14))=false:=by
  rw [<-h]
  congr 1
  ·exact decide_eq_decide.2 ⟨fun h=>by omega,fun h=>by omega⟩
  ·exact decide_eq_decide.2 ⟨fun h=>by omega,fun h=>by omega⟩
 rw [this];rfl
theorem treeOk_next (h:¬ T.next<=100000):qae T=false:=by unfold qae;rw [decide_eq_false h];simp
theorem treeOk_no {k:Nat} (hk:k<T.nodes.length) (h:nodeOk T k=false):qae T=false:=by
 have:(List.range T.nodes.length).all (nodeOk T)=false:=by
  cases e:(List.range T.nodes.length).all (nodeOk T) with
  | false=>rfl
  | true=>rw [List.all_eq_true] at e;rw [e k (List.mem_range.2 hk)] at h;cases h
 unfold qae;rw [this];simp
theorem qlt (h1:inI (T.nodes.length:Int) 1 14=true) (h2:T.next<=100000) (h3:∀ k,k<T.nodes.length->nodeOk T k=true):qae T=true:=by
 rw [inI_iff] at h1
 unfold qae
 rw [decide_eq_true (show 1<=T.nodes.length by omega),decide_eq_true (show T.nodes.length<=14 by omega),decide_eq_true h2,show (List.range T.nodes.length).all (nodeOk T)=true from List.all_eq_true.2 (fun k hk=>h3 k (List.mem_range.1 hk))];rfl
theorem qdc {w:World} {v:Value} {lo hi:Nat} (h:TSee w v T lo hi) (hf:NFit T):Calls Tryz.prog 84 #[v] w fun e w'=>e = .returned (.bool (qae T))/\Below w.heap.size w w':=by
 obtain ⟨a,cap,rs,rfl,hr,hm⟩:=h
 obtain ⟨n,hn⟩:∃ n,n=rs.length:=⟨_,rfl⟩
 have hnl:n=T.nodes.length:=by rw [hn,<-hr,qaf]
 have hp:∀ r ∈ rs,r.nd.pieces.length<=1048576/\r.nd.name.size<=1048576:=fun r hx=>by
  have:=qeo (ns:=T.nodes) (n:=r.nd) (by rw [<-hr];exact List.mem_map.2 ⟨r,hx,rfl⟩)
  unfold NFit at hf
  omega
 have hn9:n<=1048576:=by unfold NFit at hf;omega
 obtain ⟨R,hR⟩:∃ R,R=qae T:=⟨_,rfl⟩
 have HR:=Sh.mk hR
 obtain ⟨nodes,nx⟩:=T
 dsimp only at hr hnl
 subst hr
 rw [<-hR,<-hn]
 have HM:=Sh.mk (And.intro hm (And.intro hp (And.intro hn hnl)))
 obtain ⟨W,hW⟩:∃ W,W=w.alloc (.cells #[.slice a n cap,.int .i64 nx] 42):=⟨_,rfl⟩
 have HB:Sh (Below w.heap.size w W):=⟨by rw [hW];exact (Below.refl _ _).alloc (Nat.le_refl _) _⟩
 have HX:Sh (WCells W w.heap.size [.slice a n cap,.int .i64 nx]):=⟨by rw [hW];exact qad w #[.slice a n cap,.int .i64 nx] 42⟩
 have x0:=(HX.1.2 0 _ rfl).1
 have x1:=(HX.1.2 1 _ rfl).1
 clear hm hp hf hR hn hnl
 cases h1:inI (n:Int) 1 14 with
 | false =>
  have HE:Sh (R=false):=⟨by rw [HR.1];exact qht (by rw [<-HM.1.2.2.2];exact h1)⟩
  go_enter Tryz.func84,Tryz.ntmps84
  go_upto_region 1 with fail
  rw [<-hW]
  clear hW
  go_wp2_with fail
  refine (isInI (n:Int) 1 14 _ false h1).mono ?_
  rintro e w1 ⟨rfl,hw1⟩
  obtain rfl:W=w1:=hw1.symm
  clear hw1
  go_wp2_with fail
  go_ret
  exact ⟨by rw [HE.1];rfl,HB.1⟩
 | true =>
  have hn14:=(inI_iff.1 h1).2
  by_cases h2:nx<=100000
  case neg =>
   have h2':(100000:Int)<nx:=by omega
   have HE:Sh (R=false):=⟨by rw [HR.1];exact treeOk_next h2⟩
   go_enter Tryz.func84,Tryz.ntmps84
   go_upto_region 1 with fail
   rw [<-hW]
   clear hW
   go_wp2_with fail
   refine (isInI (n:Int) 1 14 _ true h1).mono ?_
   rintro e w1 ⟨rfl,hw1⟩
   obtain rfl:W=w1:=hw1.symm
   clear hw1
   go_wp2_with fail
   go_ret
   exact ⟨by rw [HE.1];rfl,HB.1⟩
  have h2':¬ (100000:Int)<nx:=by omega
  have HY:=Sh.mk (fun (q:∀ k,k<n->nodeOk ⟨nds rs,nx⟩ k=true)=>HR.1.trans (qlt (T:=⟨nds rs,nx⟩) (by show inI ((nds rs).length:Int) 1 14=true;rw [<-HM.1.2.2.2];exact h1) h2 (fun k hk=>q k (by rw [HM.1.2.2.2];exact hk))))
  have HNO:=Sh.mk (fun (k:Nat) (hk:k<n) (q:nodeOk ⟨nds rs,nx⟩ k=false)=>HR.1.trans (treeOk_no (T:=⟨nds rs,nx⟩) (by show k<(nds rs).length;rw [<-HM.1.2.2.2];exact hk) q))
  have HND:=Sh.mk (fun (W:World) (hW:Below w.heap.size w W) (k:Nat) (hk:k<n)=>specNode (cap:=cap) (nx:=nx) k (HM.1.1.below hW) (by rw [<-HM.1.2.2.1];exact hk) (by rw [<-HM.1.2.2.1];omega) HM.1.2.1)
  rw [<-HM.1.2.2.1] at HND
  go_enter Tryz.func84,Tryz.ntmps84
  go_upto_region 1 with fail
  rw [<-hW]
  clear hW
  go_wp2_with fail
  refine (isInI (n:Int) 1 14 _ true h1).mono ?_
  rintro e w1 ⟨rfl,hw1⟩
  obtain rfl:W=w1:=hw1.symm
  clear hw1 h1 x0 x1
  have x0:=(HX.1.2 0 _ rfl).1
  have x1:=(HX.1.2 1 _ rfl).1
  go_wp2_with fail
  go_loopw [3] (fun i wr=>∃ (k:Nat),i = .int .i64 k/\k<=n/\Sh (∀ j,j<k->nodeOk ⟨nds rs,nx⟩ j=true)/\Sh (Below W.heap.size W wr)) (fun i _=>n - (intOf i).toNat)
  case atStart=>exact ⟨0,rfl,Nat.zero_le _,⟨fun j hj=>by omega⟩,⟨Below.refl _ _⟩⟩
  case round =>
   clear x0 x1
   obtain ⟨k,rfl,hk,hall,hb⟩:=hrel
   have x0:=((HX.1.grow hb.1).2 0 _ rfl).1
   have x1:=((HX.1.grow hb.1).2 1 _ rfl).1
   by_cases hlt:k<n
   ·have k1:(k:Int)<(n:Int):=by omega
    have HC:=Sh.mk (HND.1 wr (HB.1.trans (hb.1.mono HB.1.size)) k hlt)
    cases hok:nodeOk ⟨nds rs,nx⟩ k with
    | false =>
     have HE:=Sh.mk (HNO.1 k hlt hok)
     rw [hok] at HC
     clear hok
     go_wp2_with fail
     refine HC.1.mono ?_
     rintro e w2 ⟨rfl,hb2⟩
     have HB2:=Sh.mk (HB.1.trans ((hb.1.trans (hb2.mono hb.1.size)).mono HB.1.size))
     clear hb2
     go_wp2_with fail
     go_ret
     exact ⟨by rw [HE.1];rfl,HB2.1⟩
    | true =>
     have HAL:Sh (∀ j,j<k+1->nodeOk ⟨nds rs,nx⟩ j=true):=⟨fun j hj=>by
      by_cases e:j=k
      ·subst e;exact hok
      ·exact hall.1 j (by omega)⟩
     rw [hok] at HC
     clear hok hall
     go_wp2_with fail
     refine HC.1.mono ?_
     rintro e w2 ⟨rfl,hb2⟩
     have HB2:=Sh.mk (hb.1.trans (hb2.mono hb.1.size))
     clear hb2
     go_wp2_with fail
     go_roundw
     case rel=>exact ⟨k+1,by go_num,by omega,HAL,HB2⟩
     case measure=>simp [intOf];omega
   ·have k1:¬ (k:Int)<(n:Int):=by omega
    have HE:=Sh.mk (HY.1 (fun j hj=>hall.1 j (by omega)))
    go_wp2_with fail
    go_ret
    exact ⟨by rw [HE.1];rfl,HB.1.trans (hb.1.mono HB.1.size)⟩
end Go.Proofs.YtoglebfiobofoaaGreatDoor
/- TreT: . -/
namespace Go.Proofs.YtoglebfiobofoaaGreatDoor
set_option maxRecDepth 100000
set_option maxHeartbeats 16000000
open Go.RowKit
attribute [local go_sem ↓] Go.wp_at_zero Go.wp_at_succ
attribute [local irreducible] nodeOk qae atI
variable {c top:Int} {ns:List NM} {f i:Nat} {w:World}
def qal (ns:List NM):Nat->Int->Int->Bool
 | 0,_,_=>false
 | f+1,id,top=>if id=top then true else match ns.findIdx? (fun n=>n.id==id) with
  | none=>false
  | some k=>qal ns f (ns.getD k default).parent top
theorem qke (h:c=top):qal ns (f+1) c top=true:=by
 conv=>lhs;unfold qal
 rw [if_pos h]
theorem qep (h0:c ≠ top) (h:ns.findIdx? (fun n=>n.id==c)=none):qal ns (f+1) c top=false:=by
 conv=>lhs;unfold qal
 rw [if_neg h0,h]
theorem qdn (h0:c ≠ top) (h:ns.findIdx? (fun n=>n.id==c)=some i):qal ns (f+1) c top=qal ns f (ns.getD i default).parent top:=by
 conv=>lhs;unfold qal
 rw [if_neg h0,h]
def qcl (ns:List NM):Nat->Int->Int
 | 0,_=>0
 | f+1,id=>match ns.findIdx? (fun n=>n.id==id) with
  | none=>0
  | some k=>if (ns.getD k default).schema ≠ 0 then (ns.getD k default).schema else qcl ns f (ns.getD k default).parent
theorem qfi (h:ns.findIdx? (fun n=>n.id==c)=none):qcl ns (f+1) c=0:=by
 conv=>lhs;unfold qcl
 rw [h]
theorem qia (h:ns.findIdx? (fun n=>n.id==c)=some i):qcl ns (f+1) c=if (ns.getD i default).schema ≠ 0 then (ns.getD i default).schema else qcl ns f (ns.getD i default).parent:=by
 conv=>lhs;unfold qcl
 rw [h]
def qbk (T:TM) (id:Int):Int:=if qae T=true then qcl T.nodes 15 id else 0
theorem qfw (ns:List NM) (id:Int):(atI ns id = -1/\ns.findIdx? (fun n=>n.id==id)=none)\/∃ i,i<ns.length/\atI ns id=(i:Int)/\ns.findIdx? (fun n=>n.id==id)=some i:=by
 unfold atI
 cases h:ns.findIdx? (fun n=>n.id==id) with
 | none=>exact .inl ⟨rfl,rfl⟩
 | some i =>
  obtain ⟨hi,_⟩:=List.findIdx?_eq_some_iff_getElem.1 h
  exact .inr ⟨i,hi,rfl,rfl⟩
structure BX (w W:World) (a:Option Addr) (n cap:Nat) (nx:Int):Prop where
 bel:Below w.heap.size w W
 box:WCells W w.heap.size [.slice a n cap,.int .i64 nx]
theorem BX.below {w W W':World} {a:Option Addr} {n cap:Nat} {nx:Int} (h:BX w W a n cap nx) (hb:Below W.heap.size W W'):BX w W' a n cap nx:=⟨h.bel.trans (hb.mono h.bel.size),h.box.grow hb⟩
theorem BX.new (w:World) (a:Option Addr) (n cap:Nat) (nx:Int) (t:TypeId):BX w (w.alloc (.cells #[.slice a n cap,.int .i64 nx] t)) a n cap nx:=⟨(Below.refl _ _).alloc (Nat.le_refl _) _,qad w #[.slice a n cap,.int .i64 nx] t⟩
theorem qkf {v:Value} {T:TM} {lo hi:Nat} (id top:Int) (h:TSee w v T lo hi) (hf:NFit T):Calls Tryz.prog 134 #[v,.int .i64 id,.int .i64 top] w fun e w'=>e = .returned (.bool (qal T.nodes 15 id top))/\Below w.heap.size w w':=by
 have hl:T.nodes.length<=1048576:=by unfold NFit at hf;omega
 have h':=h
 obtain ⟨a,cap,rs,rfl,hr,hm⟩:=h
 obtain ⟨n,hn⟩:∃ n,n=rs.length:=⟨_,rfl⟩
 rw [<-hn] at h' ⊢
 have HTS:=Sh.mk (fun W (hW:Below w.heap.size w W) (c:Int)=>qfh c (h'.below hW) hl)
 obtain ⟨R,hR⟩:∃ R,R=qal T.nodes 15 id top:=⟨_,rfl⟩
 have HR:=Sh.mk hR
 rw [<-hR]
 obtain ⟨nodes,nx⟩:=T
 dsimp only at hr HTS
 subst hr
 have HM:=Sh.mk (And.intro hm hn)
 have hn9:n<=1048576:=by dsimp only at hl;rw [qaf] at hl;omega
 clear hm hf hR hn h' hl
 go_enter Tryz.func134,Tryz.ntmps134
 go_upto_region 1 with fail
 refine qaa (fun W=>BX w W a n cap nx) (BX.new w a n cap nx 42) ?_
 intro W hg
 have HG:=Sh.mk hg
 clear hg
 go_wp2_with fail
 go_loopw [1,7] (fun iv mv wr=>∃ (m:Nat) (c:Int),iv = .int .i64 c/\mv = .int .i64 m/\m<=15/\Sh (R=qal (nds rs) (15 - m) c top)/\Sh (BX w wr a n cap nx)) (fun _ mv _=>15 - (intOf mv).toNat)
 case atStart=>exact ⟨0,id,rfl,rfl,by omega,⟨HR.1⟩,HG⟩
 case round =>
  clear HG
  obtain ⟨m,c,rfl,rfl,hm15,hcl,HG⟩:=hrel
  by_cases hlt:m<15
  ·have m1:(m:Int)<=14:=by omega
   obtain ⟨f,hf⟩:∃ f,f=15 - (m+1):=⟨_,rfl⟩
   have hcl':=hcl.1
   rw [show 15 - m=f+1 by omega] at hcl'
   by_cases he:c=top
   ·have he':(c==top)=true:=by simpa using he
    have HE:Sh (R=true):=⟨by rw [hcl',qke he]⟩
    clear he hcl' hcl hf
    go_wp2_with fail
    go_ret
    exact ⟨by rw [HE.1];rfl,HG.1.bel⟩
   ·have he':(c==top)=false:=by simpa using he
    have x0:=(HG.1.box.2 0 _ rfl).1
    have x1:=(HG.1.box.2 1 _ rfl).1
    have HAT:=Sh.mk (HTS.1 wr HG.1.bel c)
    rcases qfw (nds rs) c with ⟨hat,hfn⟩ | ⟨i,hi,hat,hfn⟩
    ·have HE:Sh (R=false):=⟨by rw [hcl',qep he hfn]⟩
     rw [hat] at HAT
     clear he hcl' hcl hf hfn hat
     go_wp2_with fail
     refine HAT.1.mono ?_
     rintro e W6 ⟨rfl,hb6⟩
     have HG6:=Sh.mk (HG.1.below hb6)
     clear hb6
     go_wp2_with fail
     go_ret
     exact ⟨by rw [HE.1];rfl,HG6.1.bel⟩
    ·have hir:i<rs.length:=by rw [qaf] at hi;exact hi
     have HNX:Sh (R=qal (nds rs) (15 - (m+1)) rs[i].nd.parent top):=⟨by rw [hcl',qdn he hfn,qcj hir,<-hf]⟩
     rw [hat] at HAT
     have i0:(0:Int)<=(i:Int):=by omega
     have i1:(i:Int)<(n:Int):=by have:=HM.1.2;omega
     have i2:¬ (i:Int)<0:=by omega
     clear he hcl' hcl hf hfn hat hi
     go_wp2_with fail
     refine HAT.1.mono ?_
     rintro e W6 ⟨rfl,hb6⟩
     have HG6:=Sh.mk (HG.1.below hb6)
     clear hb6 x0 x1 HAT
     have x0:=(HG6.1.box.2 0 _ rfl).1
     obtain ⟨b,off,rfl,lb,hc⟩:=TR.nat (HM.1.1.below HG6.1.bel) (by omega)
     have e1:=(hc i hir).2.1
     clear hc
     generalize rs[i].nd.parent=pp at *
     go_wp2_with fail
     go_roundw
     case rel=>exact ⟨m+1,pp,rfl,by go_num,by omega,HNX,HG6⟩
     case measure=>simp [intOf];omega
  ·have hm:m=15:=by omega
   have HE:Sh (R=false):=⟨by rw [hcl.1,hm];rfl⟩
   have m1:¬ (m:Int)<=14:=by omega
   clear hm hcl
   go_wp2_with fail
   go_ret
   exact ⟨by rw [HE.1];rfl,HG.1.bel⟩
end Go.Proofs.YtoglebfiobofoaaGreatDoor
/- TreN: . -/
namespace Go.Proofs.YtoglebfiobofoaaGreatDoor
set_option maxRecDepth 100000
set_option maxHeartbeats 16000000
open Go.RowKit
attribute [local go_sem ↓] Go.wp_at_zero Go.wp_at_succ
variable {w:World}
def kidS (c:Int) (nm:ByteArray) (z:Int) (n:NM):Int:=if n.parent=c/\n.name=nm/\z=0 then n.id else z
def kidF (ns:List NM) (c:Int) (nm:ByteArray):Int:=ns.foldl (kidS c nm) 0
theorem kid_take (ns:List NM) (c:Int) (nm:ByteArray) (k:Nat) (h:k<ns.length):(ns.take (k+1)).foldl (kidS c nm) 0=kidS c nm ((ns.take k).foldl (kidS c nm) 0) ns[k]:=by
 rw [List.take_succ_eq_append_getElem h,List.foldl_append]
 rfl
def findF (ns:List NM):List ByteArray->Int->Int
 | [],c=>c
 | p::ps,c=>if kidF ns c p=0 then 0 else findF ns ps (kidF ns c p)
theorem qls (ns:List NM) (L:List ByteArray) (j:Nat) (c:Int) (h:j<L.length):findF ns (L.drop j) c=if kidF ns c (L.getD j ⟨#[]⟩)=0 then 0 else findF ns (L.drop (j+1)) (kidF ns c (L.getD j ⟨#[]⟩)):=by
 rw [List.drop_eq_getElem_cons h]
 conv=>lhs;unfold findF
 simp [List.getD,h]
def findX (T:TM) (p:ByteArray):Int:=if (splitB p).2=true/\0<=atI T.nodes 1 then findF T.nodes (splitB p).1 1 else 0
theorem own_crow9 {B n:Nat} {t:TypeId} {a:Option Addr} {c:Nat} {L:List Value} (h:w.ownsRow B t 1 (.slice a n c) n L) (hn:n=L.length):CRow w a L:=by
 rcases Nat.eq_zero_or_pos n with h0 | hp
 ·intro q
  omega
 ·obtain ⟨g,cap,e,_⟩:=qjn h hp
  have e1:a=some ⟨g,0,none⟩:=by injection e
  subst e1
  exact (qar h).crow
attribute [local irreducible] nodeOk qae atI
theorem qbz {v:Value} {T:TM} {lo hi:Nat} (p:ByteArray) (h:TSee w v T lo hi) (hf:NFit T) (hp:p.size<=1048576):Calls Tryz.prog 87 #[v,.string p] w fun e w'=>e = .returned (.int .i64 (findX T p))/\Below w.heap.size w w':=by
 have hl:T.nodes.length<=1048576:=by unfold NFit at hf;omega
 have h':=h
 obtain ⟨a,cap,rs,rfl,hr,hm⟩:=h
 obtain ⟨n,hn⟩:∃ n,n=rs.length:=⟨_,rfl⟩
 rw [<-hn] at h' ⊢
 have HTS:=Sh.mk (fun W (hW:Below w.heap.size w W)=>qfh 1 (h'.below hW) hl)
 have HSP:=Sh.mk (fun W=>qgu p W hp)
 have hnm:=qbx p
 unfold OPost at HSP
 obtain ⟨R,hR⟩:∃ R,R=findX T p:=⟨_,rfl⟩
 rw [<-hR]
 unfold findX at hR
 obtain ⟨L,ok,hre⟩:∃ L ok,splitB p=(L,ok):=⟨_,_,rfl⟩
 rw [hre] at HSP hnm hR
 obtain ⟨nodes,nx⟩:=T
 dsimp only at hr HTS hR HSP hnm
 subst hr
 have HM:=Sh.mk (And.intro hm hn)
 have hn9:n<=1048576:=by dsimp only at hl;rw [qaf] at hl;omega
 have hl4:=hnm.2
 have HR:=Sh.mk hR
 obtain ⟨l,hle⟩:∃ l,l=L.length:=⟨_,rfl⟩
 have HL:=Sh.mk hle
 rw [<-hle] at HSP hl4
 clear hm hf hR hn h' hl hre hnm hle hp
 cases ok with
 | false =>
  have HE:Sh (R=0):=⟨by rw [HR.1,if_neg (by simp)]⟩
  go_enter Tryz.func87,Tryz.ntmps87
  go_upto_region 1 with fail
  refine qaa (fun W=>BX w W a n cap nx) (BX.new w a n cap nx 42) ?_
  intro W hg
  have HG:=Sh.mk hg
  clear hg
  go_wp2_with fail
  refine (HSP.1 _).mono ?_
  rintro e W1 ⟨sv,rfl,ho,hb1⟩
  obtain ⟨sa,sc,rfl⟩:=qgw ho
  have HG1:=Sh.mk (HG.1.below hb1)
  clear hb1 ho
  go_wp2_with fail
  go_ret
  exact ⟨by rw [HE.1];rfl,HG1.1.bel⟩
 | true =>
  go_enter Tryz.func87,Tryz.ntmps87
  go_upto_region 1 with fail
  refine qaa (fun W=>BX w W a n cap nx) (BX.new w a n cap nx 42) ?_
  intro W hg
  have HG:=Sh.mk hg
  clear hg
  go_wp2_with fail
  refine (HSP.1 _).mono ?_
  rintro e W1 ⟨sv,rfl,ho,hb1⟩
  obtain ⟨sa,sc,rfl⟩:=qgw ho
  have HG1:=Sh.mk (And.intro (HG.1.below hb1) (own_crow9 ho (by rw [qlw];exact HL.1)))
  have x0:=(HG1.1.1.box.2 0 _ rfl).1
  have x1:=(HG1.1.1.box.2 1 _ rfl).1
  clear hb1 ho HG HSP
  have HAT:=Sh.mk (HTS.1 W1 HG1.1.1.bel)
  rcases qfw (nds rs) 1 with ⟨hat,_⟩ | ⟨i,_,hat,_⟩
  ·have HE:Sh (R=0):=⟨by rw [HR.1,if_neg (by rw [hat];simp)]⟩
   rw [hat] at HAT
   clear hat
   go_wp2_with fail
   refine HAT.1.mono ?_
   rintro e W2 ⟨rfl,hb2⟩
   have HG2:=Sh.mk (HG1.1.1.below hb2)
   clear hb2
   go_wp2_with fail
   go_ret
   exact ⟨by rw [HE.1];rfl,HG2.1.bel⟩
  ·have HRF:Sh (R=findF (nds rs) L 1):=⟨by rw [HR.1,if_pos ⟨trivial,by rw [hat];omega⟩]⟩
   rw [hat] at HAT
   have i2:¬ (i:Int)<0:=by omega
   clear hat HR
   go_wp2_with fail
   refine HAT.1.mono ?_
   rintro e W2 ⟨rfl,hb2⟩
   have HG2:=Sh.mk (And.intro (HG1.1.1.below hb2) (HG1.1.2.stays hb2))
   clear hb2 x0 x1 HAT HG1
   go_wp2_with fail
   go_loopw [7,8] (fun cv jv wr=>∃ (j:Nat) (c:Int),cv = .int .i64 c/\jv = .int .i64 j/\j<=l/\Sh (R=findF (nds rs) (L.drop j) c)/\Sh (BX w wr a n cap nx/\CRow wr sa (tv L))) (fun _ jv _=>l - (intOf jv).toNat)
   case atStart=>exact ⟨0,1,rfl,rfl,Nat.zero_le _,⟨by rw [HRF.1];rfl⟩,HG2⟩
   case round =>
    clear HG2 HRF
    obtain ⟨j,c,rfl,rfl,hj,HC,HG⟩:=hrel
    by_cases hlt:j<l
    ·have hjl:j<L.length:=by have:=HL.1;omega
     have j0:(0:Int)<=(j:Int):=by omega
     have j1:(j:Int)<(l:Int):=by omega
     have HST:=Sh.mk (HC.1.trans (qls (nds rs) L j c hjl))
     have HPT:=Sh.mk (qkb L j hjl)
     obtain ⟨x,hx⟩:∃ x,x=L.getD j ⟨#[]⟩:=⟨_,rfl⟩
     rw [<-hx] at HST HPT
     clear hx
     go_wp2_with fail
     go_loopw [9,10] (fun zv kv wq=>∃ (k:Nat) (z:Int),zv = .int .i64 z/\kv = .int .i64 k/\k<=n/\Sh (z=((nds rs).take k).foldl (kidS c x) 0)/\Sh (BX w wq a n cap nx/\CRow wq sa (tv L))) (fun _ kv _=>n - (intOf kv).toNat)
     case atStart=>exact ⟨0,0,rfl,rfl,Nat.zero_le _,⟨by simp⟩,HG⟩
     case round =>
      clear HG
      obtain ⟨k,z,rfl,rfl,hk,HZ,HQ⟩:=hrel
      have x0:=(HQ.1.1.box.2 0 _ rfl).1
      have x1:=(HQ.1.1.box.2 1 _ rfl).1
      by_cases hkn:k<n
      ·have hkr:k<rs.length:=by have:=HM.1.2;omega
       have hkd:k<(nds rs).length:=by rw [qaf];exact hkr
       have k0:(0:Int)<=(k:Int):=by omega
       have k1:(k:Int)<(n:Int):=by omega
       have HSK:=Sh.mk (kid_take (nds rs) c x k hkd)
       rw [<-HZ.1,qrd rs k hkr] at HSK
       obtain ⟨b,off,rfl,lb,hc⟩:=TR.nat (HM.1.1.below HQ.1.1.bel) (by omega)
       have e0:=(hc k hkr).1
       have e1:=(hc k hkr).2.1
       have e2:=(hc k hkr).2.2.1
       obtain ⟨pb,po,rfl,plt,hpc⟩:=HQ.1.2 (by rw [qlw];omega)
       have y0:=hpc j _ HPT.1
       have HND:Sh (∀ q,BX w (wr.drewN q) (some ⟨b,off,none⟩) n cap nx/\CRow (wr.drewN q) (some ⟨pb,po,none⟩) (tv L)):=⟨fun q=>⟨HQ.1.1.below ⟨rfl,rfl,rfl,Nat.le_refl _,fun _ _=>rfl⟩,HQ.1.2.stays ⟨rfl,rfl,rfl,Nat.le_refl _,fun _ _=>rfl⟩⟩⟩
       clear hc hpc
       unfold kidS at HSK
       generalize rs[k]=r at *
       by_cases p1:r.nd.parent=c
       ·have p1':(r.nd.parent==c)=true:=by simpa using p1
        by_cases p2:r.nd.name=x
        ·have p2':(r.nd.name.toList==x.toList)=true:=by rw [p2];simp
         by_cases p3:z=0
         ·have p3':(z==0)=true:=by simpa using p3
          have HN:Sh (r.nd.id=((nds rs).take (k+1)).foldl (kidS c x) 0):=⟨by
           have:=HSK.1
           rw [if_pos ⟨p1,p2,p3⟩] at this
           exact this.symm⟩
          clear p1 p2 p3 HSK HZ HQ
          go_wp2_with fail
          go_quiet (fail)
          go_wp2_with fail
          go_roundw
          case rel=>exact ⟨k+1,r.nd.id,rfl,by go_num,by omega,HN,⟨HND.1 _⟩⟩
          case measure=>simp [intOf];omega
         ·have p3':(z==0)=false:=by simpa using p3
          have HN:Sh (z=((nds rs).take (k+1)).foldl (kidS c x) 0):=⟨by
           have:=HSK.1
           rw [if_neg (fun q=>p3 q.2.2)] at this
           exact this.symm⟩
          clear p1 p2 p3 HSK HZ HQ
          go_wp2_with fail
          go_quiet (fail)
          go_wp2_with fail
          go_roundw
          case rel=>exact ⟨k+1,z,rfl,by go_num,by omega,HN,⟨HND.1 _⟩⟩
          case measure=>simp [intOf];omega
        ·have p2':=qsm p2
         have HN:Sh (z=((nds rs).take (k+1)).foldl (kidS c x) 0):=⟨by
          have:=HSK.1
          rw [if_neg (fun q=>p2 q.2.1)] at this
          exact this.symm⟩
         clear p1 p2 HSK HZ HQ
         go_wp2_with fail
         go_quiet (fail)
         go_wp2_with fail
         go_roundw
         case rel=>exact ⟨k+1,z,rfl,by go_num,by omega,HN,⟨HND.1 _⟩⟩
         case measure=>simp [intOf];omega
       ·have p1':(r.nd.parent==c)=false:=by simpa using p1
        have HN:Sh (z=((nds rs).take (k+1)).foldl (kidS c x) 0):=⟨by
         have:=HSK.1
         rw [if_neg (fun q=>p1 q.1)] at this
         exact this.symm⟩
        clear p1 HSK HZ HQ
        go_wp2_with fail
        go_quiet (fail)
        go_wp2_with fail
        go_roundw
        case rel=>exact ⟨k+1,z,rfl,by go_num,by omega,HN,⟨HND.1 _⟩⟩
        case measure=>simp [intOf];omega
      ·have k1:¬ (k:Int)<(n:Int):=by omega
       have hz:z=kidF (nds rs) c x:=by
        rw [HZ.1,List.take_of_length_le (by rw [qaf];have:=HM.1.2;omega)]
        rfl
       have hst:=HST.1
       rw [<-hz] at hst
       clear hz HST
       by_cases p3:z=0
       ·have p3':(z==0)=true:=by simpa using p3
        have HE:Sh (R=0):=⟨by rw [hst,if_pos p3]⟩
        clear hst p3
        go_wp2_with fail
        go_ret
        exact ⟨by rw [HE.1];rfl,HQ.1.1.bel⟩
       ·have p3':(z==0)=false:=by simpa using p3
        have HN:Sh (R=findF (nds rs) (L.drop (j+1)) z):=⟨by rw [hst,if_neg p3]⟩
        clear hst p3
        go_wp2_with fail
        go_roundw
        case rel=>exact ⟨j+1,z,rfl,by go_num,by omega,HN,HQ⟩
        case measure=>simp [intOf];omega
    ·have j1:¬ (j:Int)<(l:Int):=by omega
     have HE:Sh (R=c):=⟨by
      rw [HC.1,List.drop_eq_nil_of_le (by have:=HL.1;omega)]
      rfl⟩
     go_wp2_with fail
     go_ret
     exact ⟨by rw [HE.1];rfl,HG.1.1.bel⟩
end Go.Proofs.YtoglebfiobofoaaGreatDoor
/- TreU: . -/
namespace Go.Proofs.YtoglebfiobofoaaGreatDoor
set_option maxRecDepth 100000
set_option maxHeartbeats 16000000
open Go.RowKit
attribute [local go_sem ↓] Go.wp_at_zero Go.wp_at_succ
attribute [local irreducible] nodeOk qae atI
theorem specSchemaAt {w:World} {v:Value} {T:TM} {lo hi:Nat} (id:Int) (h:TSee w v T lo hi) (hf:NFit T):Calls Tryz.prog 132 #[v,.int .i64 id] w fun e w'=>e = .returned (.int .i64 (qbk T id))/\Below w.heap.size w w':=by
 have hl:T.nodes.length<=1048576:=by unfold NFit at hf;omega
 have h':=h
 obtain ⟨a,cap,rs,rfl,hr,hm⟩:=h
 obtain ⟨n,hn⟩:∃ n,n=rs.length:=⟨_,rfl⟩
 rw [<-hn] at h' ⊢
 have HTS:=Sh.mk (fun W (hW:Below w.heap.size w W) (c:Int)=>qfh c (h'.below hW) hl)
 have HTO:=Sh.mk (fun W (hW:Below w.heap.size w W)=>qdc (h'.below hW) hf)
 obtain ⟨R,hR⟩:∃ R,R=qbk T id:=⟨_,rfl⟩
 rw [<-hR]
 unfold qbk at hR
 obtain ⟨nodes,nx⟩:=T
 dsimp only at hr HTS HTO hR
 subst hr
 have HM:=Sh.mk (And.intro hm hn)
 have hn9:n<=1048576:=by dsimp only at hl;rw [qaf] at hl;omega
 have HR:=Sh.mk hR
 clear hm hf hR hn h' hl
 cases hok:qae ⟨nds rs,nx⟩ with
 | false =>
  have HE:Sh (R=0):=⟨by rw [HR.1,if_neg (by rw [hok];decide)]⟩
  rw [hok] at HTO
  clear hok
  go_enter Tryz.func132,Tryz.ntmps132
  go_upto_region 1 with fail
  refine qaa (fun W=>BX w W a n cap nx) (BX.new w a n cap nx 42) ?_
  intro W hg
  have HG:=Sh.mk hg
  have x0:=(hg.box.2 0 _ rfl).1
  have x1:=(hg.box.2 1 _ rfl).1
  clear hg
  go_wp2_with fail
  refine (HTO.1 _ HG.1.bel).mono ?_
  rintro e W1 ⟨rfl,hb1⟩
  have HG1:=Sh.mk (HG.1.below hb1)
  clear hb1
  go_wp2_with fail
  go_ret
  exact ⟨by rw [HE.1];rfl,HG1.1.bel⟩
 | true =>
  have HRR:Sh (R=qcl (nds rs) 15 id):=⟨by rw [HR.1,if_pos hok]⟩
  rw [hok] at HTO
  clear hok HR
  go_enter Tryz.func132,Tryz.ntmps132
  go_upto_region 1 with fail
  refine qaa (fun W=>BX w W a n cap nx) (BX.new w a n cap nx 42) ?_
  intro W hg
  have HG:=Sh.mk hg
  have x0:=(hg.box.2 0 _ rfl).1
  have x1:=(hg.box.2 1 _ rfl).1
  clear hg
  go_wp2_with fail
  refine (HTO.1 _ HG.1.bel).mono ?_
  rintro e W1 ⟨rfl,hb1⟩
  have HG1:=Sh.mk (HG.1.below hb1)
  clear hb1 x0 x1 HG
  go_wp2_with fail
  go_loopw [1,5] (fun iv mv wr=>∃ (m:Nat) (c:Int),iv = .int .i64 c/\mv = .int .i64 m/\m<=15/\Sh (R=qcl (nds rs) (15 - m) c)/\Sh (BX w wr a n cap nx)) (fun _ mv _=>15 - (intOf mv).toNat)
  case atStart=>exact ⟨0,id,rfl,rfl,by omega,⟨HRR.1⟩,HG1⟩
  case round =>
   clear HG1
   obtain ⟨m,c,rfl,rfl,hm15,hcl,HG⟩:=hrel
   by_cases hlt:m<15
   ·have m1:(m:Int)<=14:=by omega
    obtain ⟨f,hf⟩:∃ f,f=15 - (m+1):=⟨_,rfl⟩
    have hcl':=hcl.1
    rw [show 15 - m=f+1 by omega] at hcl'
    have x0:=(HG.1.box.2 0 _ rfl).1
    have x1:=(HG.1.box.2 1 _ rfl).1
    have HAT:=Sh.mk (HTS.1 wr HG.1.bel c)
    rcases qfw (nds rs) c with ⟨hat,hfn⟩ | ⟨i,hi,hat,hfn⟩
    ·have HE:Sh (R=0):=⟨by rw [hcl',qfi hfn]⟩
     rw [hat] at HAT
     clear hcl' hcl hf hfn hat
     go_wp2_with fail
     refine HAT.1.mono ?_
     rintro e W6 ⟨rfl,hb6⟩
     have HG6:=Sh.mk (HG.1.below hb6)
     clear hb6
     go_wp2_with fail
     go_ret
     exact ⟨by rw [HE.1];rfl,HG6.1.bel⟩
    ·have hir:i<rs.length:=by rw [qaf] at hi;exact hi
     have HNX:Sh (R=if rs[i].nd.schema ≠ 0 then rs[i].nd.schema else qcl (nds rs) (15 - (m+1)) rs[i].nd.parent):=⟨by rw [hcl',qia hfn,qcj hir,<-hf]⟩
     rw [hat] at HAT
     have i0:(0:Int)<=(i:Int):=by omega
     have i1:(i:Int)<(n:Int):=by have:=HM.1.2;omega
     have i2:¬ (i:Int)<0:=by omega
     clear hcl' hcl hf hfn hat hi
     go_wp2_with fail
     refine HAT.1.mono ?_
     rintro e W6 ⟨rfl,hb6⟩
     have HG6:=Sh.mk (HG.1.below hb6)
     clear hb6 x0 x1 HAT
     have x0:=(HG6.1.box.2 0 _ rfl).1
     obtain ⟨b,off,rfl,lb,hc⟩:=TR.nat (HM.1.1.below HG6.1.bel) (by omega)
     have e1:=(hc i hir).2.1
     have e4:=(hc i hir).2.2.2.2.1
     clear hc
     generalize rs[i].nd.parent=pp at *
     generalize rs[i].nd.schema=ss at *
     by_cases hs:ss=0
     ·have hs':(ss != 0)=false:=by simpa using hs
      have HN2:Sh (R=qcl (nds rs) (15 - (m+1)) pp):=⟨by rw [HNX.1,if_neg (by simpa using hs)]⟩
      clear hs HNX
      go_wp2_with fail
      go_roundw
      case rel=>exact ⟨m+1,pp,rfl,by go_num,by omega,HN2,HG6⟩
      case measure=>simp [intOf];omega
     ·have hs':(ss != 0)=true:=by simpa using hs
      have HE:Sh (R=ss):=⟨by rw [HNX.1,if_pos hs]⟩
      clear hs HNX
      go_wp2_with fail
      go_ret
      exact ⟨by rw [HE.1];rfl,HG6.1.bel⟩
   ·have hm:m=15:=by omega
    have HE:Sh (R=0):=⟨by rw [hcl.1,hm];rfl⟩
    have m1:¬ (m:Int)<=14:=by omega
    clear hm hcl
    go_wp2_with fail
    go_ret
    exact ⟨by rw [HE.1];rfl,HG.1.bel⟩
end Go.Proofs.YtoglebfiobofoaaGreatDoor
/- TreW: . -/
namespace Go.Proofs.YtoglebfiobofoaaGreatDoor
set_option maxRecDepth 100000
set_option maxHeartbeats 16000000
open Go.RowKit
attribute [local go_sem ↓] Go.wp_at_zero Go.wp_at_succ
attribute [local irreducible] nodeOk qae atI qal
variable {v:Value} {w:World}
def qbs (all ns:List NM) (id:Int):List Int:=(ns.filter fun n=>qal all 15 n.id id).map NM.id
theorem belowL_snoc (all ns:List NM) (n:NM) (id:Int):qbs all (ns++[n]) id=qbs all ns id++if qal all 15 n.id id=true then [n.id] else []:=by
 unfold qbs
 rw [List.filter_append,List.map_append]
 congr 1
 cases h:qal all 15 n.id id <;> simp [h]
theorem belowL_len (all ns:List NM) (id:Int):(qbs all ns id).length<=ns.length:=by
 unfold qbs
 rw [List.length_map]
 exact List.length_filter_le _ _
def qap (T:TM) (id:Int):List Int:=if qae T=true/\0<=atI T.nodes id then qbs T.nodes T.nodes id else []
theorem qov (xs:List Int) (x:Int):ics xs++[.int .i64 x]=ics (xs++[x]):=by simp [ics]
theorem qhu {B C n sz:Nat} {t:TypeId} {L:List Value} (h:w.ownsRow B t sz v n L) (hC:C<=B):w.ownsRow C t sz v n L:=by
 obtain ⟨h1,h | ⟨g,cap,cur,e,hB,rest⟩⟩:=h
 ·exact ⟨h1,.inl h⟩
 ·exact ⟨h1,.inr ⟨g,cap,cur,e,Nat.le_trans hC hB,rest⟩⟩
theorem BX.grown {w W W':World} {a:Option Addr} {n cap:Nat} {nx:Int} {q:Option Nat} (h:BX w W a n cap nx) (hg:W.grownBy W' q) (hq:∀ k,q=some k->w.heap.size+1<=k):BX w W' a n cap nx:=by
 have hb:Below (w.heap.size+1) W W':=(Below.refl _ _).grown hg (by have:=h.box.1;omega) hq
 exact ⟨h.bel.trans (hb.mono (by omega)),h.box.below hb (by omega)⟩
theorem qkg (all ns:List NM) (id:Int):qbs all (ns.take 0) id=[]:=by simp [qbs]
attribute [local irreducible] qbs
theorem specBelowOf {T:TM} {lo hi:Nat} (id:Int) (h:TSee w v T lo hi) (hf:NFit T):Calls Tryz.prog 168 #[v,.int .i64 id] w fun e w'=>IPost (qap T id) w e w':=by
 have hl:T.nodes.length<=1048576:=by unfold NFit at hf;omega
 have h':=h
 obtain ⟨a,cap,rs,rfl,hr,hm⟩:=h
 obtain ⟨n,hn⟩:∃ n,n=rs.length:=⟨_,rfl⟩
 rw [<-hn] at h' ⊢
 have HTS:=Sh.mk (fun W (hW:Below w.heap.size w W) (c:Int)=>qfh c (h'.below hW) hl)
 have HTB:=Sh.mk (fun W (hW:Below w.heap.size w W) (c:Int)=>qkf c id (h'.below hW) hf)
 have HTO:=Sh.mk (fun W (hW:Below w.heap.size w W)=>qdc (h'.below hW) hf)
 obtain ⟨R,hR⟩:∃ R,R=qap T id:=⟨_,rfl⟩
 rw [<-hR]
 unfold qap at hR
 obtain ⟨nodes,nx⟩:=T
 dsimp only at hr HTS HTB HTO hR
 subst hr
 have HM:=Sh.mk (And.intro hm hn)
 have hn9:n<=1048576:=by dsimp only at hl;rw [qaf] at hl;omega
 have HR:=Sh.mk hR
 clear hm hf hR hn h' hl
 cases hok:qae ⟨nds rs,nx⟩ with
 | false =>
  have HE:Sh (R=[]):=⟨by rw [HR.1,if_neg (by rw [hok];simp)]⟩
  rw [hok] at HTO
  clear hok
  go_enter Tryz.func168,Tryz.ntmps168
  go_upto_region 1 with fail
  refine qaa (fun W=>BX w W a n cap nx) (BX.new w a n cap nx 42) ?_
  intro W hg
  have HG:=Sh.mk hg
  have x0:=(hg.box.2 0 _ rfl).1
  have x1:=(hg.box.2 1 _ rfl).1
  clear hg
  go_wp2_with fail
  refine (HTO.1 _ HG.1.bel).mono ?_
  rintro e W1 ⟨rfl,hb1⟩
  have HG1:=Sh.mk (HG.1.below hb1)
  clear hb1
  go_wp2_with fail
  go_ret
  exact ⟨_,rfl,qft (n:=0) (by rw [HE.1,List.length_nil]) (by rw [HE.1];exact World.ownsRow_made W1 #[] 0 HG1.1.bel.size (by decide) rfl),HG1.1.bel.alloc HG1.1.bel.size _⟩
 | true =>
  rw [hok] at HTO
  rcases qfw (nds rs) id with ⟨hat,_⟩ | ⟨i0,hi0,hat,_⟩
  ·have HE:Sh (R=[]):=⟨by rw [HR.1,if_neg (by rw [hat];simp)]⟩
   clear hok
   go_enter Tryz.func168,Tryz.ntmps168
   go_upto_region 1 with fail
   refine qaa (fun W=>BX w W a n cap nx) (BX.new w a n cap nx 42) ?_
   intro W hg
   have HG:=Sh.mk hg
   have x0:=(hg.box.2 0 _ rfl).1
   have x1:=(hg.box.2 1 _ rfl).1
   clear hg
   go_wp2_with fail
   refine (HTO.1 _ HG.1.bel).mono ?_
   rintro e W1 ⟨rfl,hb1⟩
   have HG1:=Sh.mk (HG.1.below hb1)
   clear hb1 x0 x1 HG
   go_upto_region 4 with fail
   refine qaa (fun W=>BX w W a n cap nx/\W.ownsRow (w.heap.size+1) 3 1 (.slice (some ⟨W1.heap.size,0,none⟩) 0 0) 0 []) ⟨HG1.1.below ((Below.refl _ _).alloc (Nat.le_refl _) _),World.ownsRow_made W1 #[] 0 (by have:=HG1.1.box.1;omega) (by decide) rfl⟩ ?_
   rintro W2 ⟨hg2,ho2⟩
   have HG2:=Sh.mk (And.intro hg2 ho2)
   have x0:=(hg2.box.2 0 _ rfl).1
   have x1:=(hg2.box.2 1 _ rfl).1
   have HAT:=Sh.mk (HTS.1 W2 hg2.bel id)
   rw [hat] at HAT
   clear hg2 ho2 HG1 hat
   go_wp2_with fail
   refine HAT.1.mono ?_
   rintro e W3 ⟨rfl,hb3⟩
   have HG3:=Sh.mk (And.intro (HG2.1.1.below hb3) (HG2.1.2.kept (row:=none) ⟨hb3.os,hb3.tape,hb3.output,hb3.size,fun k hk _=>hb3.block k hk⟩ (Classical.em _)))
   clear hb3
   go_wp2_with fail
   go_ret
   exact ⟨_,rfl,qft (n:=0) (by rw [HE.1,List.length_nil]) (by rw [HE.1];exact qhu HG3.1.2 (by omega)),HG3.1.1.bel⟩
  ·have HRR:Sh (R=qbs (nds rs) (nds rs) id):=⟨by rw [HR.1,if_pos ⟨hok,by omega⟩]⟩
   obtain ⟨t0,ht0,hty0,hty1,hty2⟩:=info_parts qig
   clear hok HR
   go_enter Tryz.func168,Tryz.ntmps168
   go_upto_region 1 with fail
   refine qaa (fun W=>BX w W a n cap nx) (BX.new w a n cap nx 42) ?_
   intro W hg
   have HG:=Sh.mk hg
   have x0:=(hg.box.2 0 _ rfl).1
   have x1:=(hg.box.2 1 _ rfl).1
   clear hg
   go_wp2_with fail
   refine (HTO.1 _ HG.1.bel).mono ?_
   rintro e W1 ⟨rfl,hb1⟩
   have HG1:=Sh.mk (HG.1.below hb1)
   clear hb1 x0 x1 HG
   go_upto_region 4 with fail
   refine qaa (fun W=>BX w W a n cap nx/\W.ownsRow (w.heap.size+1) 3 1 (.slice (some ⟨W1.heap.size,0,none⟩) 0 0) 0 []) ⟨HG1.1.below ((Below.refl _ _).alloc (Nat.le_refl _) _),World.ownsRow_made W1 #[] 0 (by have:=HG1.1.box.1;omega) (by decide) rfl⟩ ?_
   rintro W2 ⟨hg2,ho2⟩
   have HG2:=Sh.mk (And.intro hg2 ho2)
   have x0:=(hg2.box.2 0 _ rfl).1
   have x1:=(hg2.box.2 1 _ rfl).1
   have HAT:=Sh.mk (HTS.1 W2 hg2.bel id)
   rw [hat] at HAT
   have i2:¬ (i0:Int)<0:=by omega
   clear hg2 ho2 HG1 hat
   go_wp2_with fail
   refine HAT.1.mono ?_
   rintro e W3 ⟨rfl,hb3⟩
   have HG3:=Sh.mk (And.intro (HG2.1.1.below hb3) (HG2.1.2.kept (row:=none) ⟨hb3.os,hb3.tape,hb3.output,hb3.size,fun k hk _=>hb3.block k hk⟩ (Classical.em _)))
   clear hb3 x0 x1 HG2 HAT
   have x0:=(HG3.1.1.box.2 0 _ rfl).1
   go_wp2_with fail
   go_loopw [5,6] (fun ov iv wr=>∃ (k l:Nat) (vv:Value),vv=ov/\iv = .int .i64 k/\k<=n/\l<=k/\Sh (l=(qbs (nds rs) ((nds rs).take k) id).length)/\Sh (BX w wr a n cap nx/\wr.ownsRow (w.heap.size+1) 3 1 vv l (ics (qbs (nds rs) ((nds rs).take k) id)))) (fun _ iv _=>n - (intOf iv).toNat)
   case atStart=>exact ⟨0,0,_,rfl,rfl,Nat.zero_le _,Nat.le_refl _,⟨by rw [qkg,List.length_nil]⟩,⟨by rw [qkg];exact HG3.1⟩⟩
   case round =>
    clear HG3 x0
    obtain ⟨k,l,ov,rfl,rfl,hk,hlk,HL,HG⟩:=hrel
    obtain ⟨wo,rfl⟩:∃ wo,wo=wr:=⟨_,rfl⟩
    have x0:=(HG.1.1.box.2 0 _ rfl).1
    have x1:=(HG.1.1.box.2 1 _ rfl).1
    by_cases hlt:k<n
    ·have hkr:k<rs.length:=by have:=HM.1.2;omega
     have k0:(0:Int)<=(k:Int):=by omega
     have k1:(k:Int)<(n:Int):=by omega
     obtain ⟨b,off,rfl,lb,hc⟩:=TR.nat (HM.1.1.below HG.1.1.bel) (by omega)
     have HC:=Sh.mk (hc k hkr)
     have e0:=(hc k hkr).1
     have hst:(nds rs).take (k+1)=(nds rs).take k++[rs[k].nd]:=by
      rw [List.take_succ_eq_append_getElem (by rw [qaf];exact hkr),qrd rs k hkr]
     have HBC:=Sh.mk (fun W (hW:Below wo.heap.size wo W)=>HTB.1 W (HG.1.1.bel.trans (hW.mono HG.1.1.bel.size)) rs[k].nd.id)
     have hbs:=belowL_snoc (nds rs) ((nds rs).take k) rs[k].nd id
     rw [<-hst] at hbs
     have HBS:=Sh.mk hbs
     clear hc hst hbs
     generalize rs[k]=r at *
     have hwl:w.heap.size<wo.heap.size:=HG.1.1.box.1
     cases hbf:qal (nds rs) 15 r.nd.id id with
     | false =>
      rw [hbf] at HBC HBS
      have HB':Sh (qbs (nds rs) ((nds rs).take (k+1)) id=qbs (nds rs) ((nds rs).take k) id):=⟨by rw [HBS.1];simp⟩
      clear hbf HBS
      go_wp2_with fail
      go_region_held3 (fun w'=>w'.cell? ⟨w.heap.size,0,none⟩=some (.slice (some ⟨b,off,none⟩) n cap)/\w'.cell? ⟨w.heap.size,1,none⟩=some (.int .i64 nx)/\w'.cell? ⟨b,off+k*9,none⟩=some (.int .i64 r.nd.id))
       (first | go_keep | (refine ⟨?_,?_,?_⟩ <;> first | (rw [hb9.cell (by exact hwl)];simp [*];done) | (rw [hb9.cell (by exact lb)];simp [*];done)))
       ((go_at_call 134;refine (HBC.1 _ (by first | exact Below.refl _ _ | exact Below.drew (Below.refl _ _))).mono ?_;rintro e w9 ⟨rfl,hb9⟩))
      all_goals
       have hb:Below wo.heap.size wo w9:=by first | exact (Below.drew (Below.refl _ _)).trans hb9 | exact hb9
       have HGN:=Sh.mk (And.intro (HG.1.1.below hb) (HG.1.2.kept (row:=none) ⟨hb.os,hb.tape,hb.output,hb.size,fun k hk _=>hb.block k hk⟩ (Classical.em _)))
       clear hb hb9
       go_wp2_with fail
       go_roundw
       case rel=>exact ⟨k+1,l,ov,rfl,by go_num,by omega,by omega,⟨by rw [HB'.out];exact HL.1⟩,⟨by rw [HB'.out];exact HGN.1⟩⟩
       case measure=>simp [intOf];omega
     | true =>
      rw [hbf] at HBC HBS
      have HB':Sh (qbs (nds rs) ((nds rs).take (k+1)) id=qbs (nds rs) ((nds rs).take k) id++[r.nd.id]):=⟨by rw [HBS.1];simp⟩
      clear hbf HBS
      go_wp2_with fail
      go_region_held3 (fun w'=>w'.cell? ⟨w.heap.size,0,none⟩=some (.slice (some ⟨b,off,none⟩) n cap)/\w'.cell? ⟨w.heap.size,1,none⟩=some (.int .i64 nx)/\w'.cell? ⟨b,off+k*9,none⟩=some (.int .i64 r.nd.id))
       (first | go_keep | (refine ⟨?_,?_,?_⟩ <;> first | (rw [hb9.cell (by exact hwl)];simp [*];done) | (rw [hb9.cell (by exact lb)];simp [*];done)))
       ((go_at_call 134;refine (HBC.1 _ (by first | exact Below.refl _ _ | exact Below.drew (Below.refl _ _))).mono ?_;rintro e w9 ⟨rfl,hb9⟩))
      all_goals
       have hb:Below wo.heap.size wo w9:=by first | exact (Below.drew (Below.refl _ _)).trans hb9 | exact hb9
       have HGN:=Sh.mk (And.intro (HG.1.1.below hb) (HG.1.2.kept (row:=none) ⟨hb.os,hb.tape,hb.output,hb.size,fun k hk _=>hb.block k hk⟩ (Classical.em _)))
       have z0:=(HGN.1.1.box.2 0 _ rfl).1
       have f0:=((HC.1.below hb lb)).1
       have hs9:w.heap.size+1<=w9.heap.size:=by have:=HGN.1.1.box.1;omega
       have ho9:=HGN.1.2
       clear hb hb9 x0 x1 e0
       go_wp2_with (at_builtin;refine wpList_append_own _ rfl _ _ 49 rfl (w.heap.size+1) 3 t0 (.int .i64 0) 1 8 Tryz.underlying49 ht0 hty0 hty1 hty2 rfl (by decide) _ _ _ rfl (ho9.alloc _) ⟨w9.heap.size,0,none⟩ 1 1 [.int .i64 r.nd.id] rfl rfl (cell_one_new _ _ _) ?c2 ?c3 ?c4 ?c5 ?_)
       case c2=>first | rfl | (intro u hu;simp at hu;subst hu;rfl)
       case c3=>unfold maxLen;omega
       case c4=>omega
       case c5=>first | omega | (simp;omega)
       intro v' w10 ho10 hgrow _
       rw [qov,<-HB'.out] at ho10
       have HGZ:=Sh.mk (And.intro ((HGN.1.1.below ((Below.refl _ _).alloc (Nat.le_refl _) _)).grown hgrow (fun j hj=>(ho9.lt j hj).1)) ho10)
       clear hgrow ho10 ho9
       go_wp2_with fail
       go_roundw
       case rel=>exact ⟨k+1,l+1,v',rfl,by go_num,by omega,by omega,⟨by rw [HB'.out,List.length_append,List.length_singleton,<-HL.1]⟩,HGZ⟩
       case measure=>simp [intOf];omega
    ·have k1:¬ (k:Int)<(n:Int):=by omega
     have hall:(nds rs).take k=nds rs:=List.take_of_length_le (by rw [qaf];have:=HM.1.2;omega)
     have ho:=HG.1.2
     have hlen:=HL.1
     rw [hall,<-HRR.1] at ho
     rw [hall,<-HRR.1] at hlen
     have HF:=Sh.mk (And.intro hlen ho)
     clear hall ho hlen
     go_wp2_with fail
     go_ret
     exact ⟨ov,rfl,qft HF.1.1.symm (qhu HF.1.2 (by omega)),HG.1.1.bel⟩
end Go.Proofs.YtoglebfiobofoaaGreatDoor
/- TreX: . -/
namespace Go.Proofs.YtoglebfiobofoaaGreatDoor
set_option maxRecDepth 100000
set_option maxHeartbeats 16000000
open Go.RowKit
attribute [local go_sem ↓] Go.wp_at_zero Go.wp_at_succ
variable {id x:Int} {n:NM} {T:TM}
def usedL (ns:List NM):List Int->Int
 | []=>0
 | x::xs=>(ns.getD (atI ns x).toNat default).len+usedL ns xs
theorem usedL_append (ns:List NM) (xs ys:List Int):usedL ns (xs++ys)=usedL ns xs+usedL ns ys:=by
 induction xs with
 | nil=>simp [usedL]
 | cons x xs ih=>simp only [List.cons_append,usedL,ih];omega
theorem usedL_take (ns:List NM) (xs:List Int) (k:Nat) (h:k<xs.length):usedL ns (xs.take (k+1))=usedL ns (xs.take k)+(ns.getD (atI ns xs[k]).toNat default).len:=by
 rw [List.take_succ_eq_append_getElem h,usedL_append]
 simp [usedL]
def usedX (T:TM) (id:Int):Int:=usedL T.nodes (qap T id)
theorem qhv (h:fileOk n=true):0<=n.len/\n.len<=1000:=by
 unfold fileOk at h
 simp only [Bool.and_eq_true,beq_iff_eq,decide_eq_true_eq,List.all_eq_true] at h
 obtain ⟨⟨⟨_,h5⟩,h6⟩,h7⟩:=h
 have:=(qsl h5).1
 omega
theorem dirOk_len (h:dirOk n=true):n.len=0:=by
 unfold dirOk at h
 simp only [Bool.and_eq_true,beq_iff_eq] at h
 exact h.1.1.2
theorem qlu {i:Nat} (h:nodeOk T i=true):0<=(T.nodes.getD i default).len/\(T.nodes.getD i default).len<=1000:=by
 unfold nodeOk at h
 simp only [Bool.and_eq_true] at h
 have h3:=h.1.2
 split at h3
 ·have:=dirOk_len h3;omega
 ·exact qhv h3
theorem qcm (h:qae T=true) {i:Nat} (hi:i<T.nodes.length):nodeOk T i=true:=by
 unfold qae at h
 simp only [Bool.and_eq_true,List.all_eq_true] at h
 exact h.2 i (List.mem_range.2 hi)
theorem qhb (h:qae T=true):T.nodes.length<=14:=by
 unfold qae at h
 simp only [Bool.and_eq_true,decide_eq_true_eq] at h
 exact h.1.1.2
theorem belowX_mem (h:x ∈ qap T id):qae T=true/\∃ n ∈ T.nodes,n.id=x:=by
 unfold qap at h
 split at h
 ·rename_i hc
  refine ⟨hc.1,?_⟩
  unfold qbs at h
  obtain ⟨n,hn,rfl⟩:=List.mem_map.1 h
  exact ⟨n,(List.mem_filter.1 hn).1,rfl⟩
 ·simp at h
theorem qow (h:x ∈ qap T id):∃ i,i<T.nodes.length/\atI T.nodes x=(i:Int)/\0<=(T.nodes.getD i default).len/\(T.nodes.getD i default).len<=1000:=by
 obtain ⟨hok,n,hn,hid⟩:=belowX_mem h
 rcases qfw T.nodes x with ⟨_,hno⟩ | ⟨i,hi,hat,_⟩
 ·have:=List.findIdx?_eq_none_iff.1 hno n hn
  simp [hid] at this
 ·exact ⟨i,hi,hat,qlu (qcm hok hi)⟩
theorem qed (T:TM) (id:Int):(qap T id).length<=14:=by
 unfold qap
 split
 ·rename_i hc
  have:=belowL_len T.nodes T.nodes id
  have:=qhb hc.1
  omega
 ·simp
attribute [local irreducible] nodeOk qae atI qal qbs qap
theorem qhc {w:World} {v:Value} {lo hi:Nat} (id:Int) (h:TSee w v T lo hi) (hf:NFit T):Calls Tryz.prog 135 #[v,.int .i64 id] w fun e w'=>e = .returned (.int .i64 (usedX T id))/\Below w.heap.size w w':=by
 have hl:T.nodes.length<=1048576:=by unfold NFit at hf;omega
 have h':=h
 obtain ⟨a,cap,rs,rfl,hr,hm⟩:=h
 obtain ⟨n,hn⟩:∃ n,n=rs.length:=⟨_,rfl⟩
 rw [<-hn] at h' ⊢
 have HTS:=Sh.mk (fun W (hW:Below w.heap.size w W) (c:Int)=>qfh c (h'.below hW) hl)
 have HBO:=Sh.mk (fun W (hW:Below w.heap.size w W)=>specBelowOf id (h'.below hW) hf)
 obtain ⟨R,hR⟩:∃ R,R=usedX T id:=⟨_,rfl⟩
 rw [<-hR]
 unfold usedX at hR
 have HAT:=Sh.mk (fun x (hx:x ∈ qap T id)=>qow hx)
 have hbl:=qed T id
 obtain ⟨B,hB⟩:∃ B,B=qap T id:=⟨_,rfl⟩
 rw [<-hB] at HBO HAT hbl hR
 obtain ⟨nodes,nx⟩:=T
 dsimp only at hr HTS HBO hR HAT
 subst hr
 have HM:=Sh.mk (And.intro hm hn)
 have hn9:n<=1048576:=by dsimp only at hl;rw [qaf] at hl;omega
 have HR:=Sh.mk hR
 obtain ⟨l,hle⟩:∃ l,l=B.length:=⟨_,rfl⟩
 have HL:=Sh.mk hle
 rw [<-hle] at hbl
 clear hm hf hR hn h' hl hB hle
 go_enter Tryz.func135,Tryz.ntmps135
 go_upto_region 1 with fail
 refine qaa (fun W=>BX w W a n cap nx) (BX.new w a n cap nx 42) ?_
 intro W hg
 have HG:=Sh.mk hg
 have x0:=(hg.box.2 0 _ rfl).1
 have x1:=(hg.box.2 1 _ rfl).1
 clear hg
 go_wp2_with fail
 refine (HBO.1 _ HG.1.bel).mono ?_
 rintro e W1 ⟨bv,rfl,hia,hb1⟩
 obtain ⟨ba',bc,rfl,_,hq⟩:=hia
 have hrow:CRow W1 ba' (ics B):=by
  rcases hq with e | ⟨g,rfl,_,_,hw⟩
  ·rw [e];intro h;simp [ics] at h
  ·exact hw.crow
 have HG1:=Sh.mk (And.intro (HG.1.below hb1) hrow)
 rw [<-HL.1]
 clear hb1 hq hrow x0 x1 HG
 go_wp2_with fail
 go_loopw [6,7] (fun sv iv wr=>∃ (k:Nat) (z:Int),sv = .int .i64 z/\iv = .int .i64 k/\k<=l/\0<=z/\z<=1000*k/\Sh (z=usedL (nds rs) (B.take k))/\Sh (BX w wr a n cap nx/\CRow wr ba' (ics B))) (fun _ iv _=>l - (intOf iv).toNat)
 case atStart=>exact ⟨0,0,rfl,rfl,Nat.zero_le _,by omega,by omega,⟨by simp [usedL]⟩,HG1⟩
 case round =>
  clear HG1
  obtain ⟨k,z,rfl,rfl,hk,hz0,hz1,HZ,HG⟩:=hrel
  by_cases hlt:k<l
  ·have hkb:k<B.length:=by have:=HL.1;omega
   have k0:(0:Int)<=(k:Int):=by omega
   have k1:(k:Int)<(l:Int):=by omega
   have x0:=(HG.1.1.box.2 0 _ rfl).1
   have x1:=(HG.1.1.box.2 1 _ rfl).1
   have hwl:w.heap.size<wr.heap.size:=HG.1.1.box.1
   obtain ⟨bb,bo,rfl,blt,hbc⟩:=HG.1.2 (by rw [ics_len];omega)
   have hx:B[k] ∈ B:=List.getElem_mem hkb
   have y0:=hbc k (.int .i64 B[k]) (by simp [ics,hkb])
   obtain ⟨i,hi,hat,hn0,hn1⟩:=HAT.1 B[k] hx
   have hir:i<rs.length:=by rw [qaf] at hi;exact hi
   have hst:=usedL_take (nds rs) B k hkb
   rw [hat,Int.toNat_natCast,qcj hir] at hst
   rw [qcj hir] at hn0 hn1
   have HST:=Sh.mk hst
   have i0:(0:Int)<=(i:Int):=by omega
   have i1:(i:Int)<(n:Int):=by have:=HM.1.2;omega
   obtain ⟨b,off,rfl,lb,hc⟩:=TR.nat (HM.1.1.below HG.1.1.bel) (by omega)
   have e6:=(hc i hir).2.2.2.2.2.2.1
   have HCL:=Sh.mk (fun W (hW:Below wr.heap.size wr W)=>HTS.1 W (HG.1.1.bel.trans (hW.mono HG.1.1.bel.size)) B[k])
   rw [hat] at HCL
   have hwz:IntKind.i64.wrap (z+rs[i].nd.len)=z+rs[i].nd.len:=IntWalk.i64_in _ ⟨by omega,by omega⟩
   clear hbc hc hst hat hi hx
   generalize rs[i].nd.len=q at *
   generalize B[k]=x at *
   go_wp2_with fail
   go_region_held3 (fun w'=>w'.cell? ⟨w.heap.size,0,none⟩=some (.slice (some ⟨b,off,none⟩) n cap)/\w'.cell? ⟨w.heap.size,1,none⟩=some (.int .i64 nx)/\w'.cell? ⟨bb,bo+k,none⟩=some (.int .i64 x)/\w'.cell? ⟨b,off+i*9+6,none⟩=some (.int .i64 q))
    (first | go_keep | (refine ⟨?_,?_,?_,?_⟩ <;> first | (rw [hb9.cell (by exact hwl)];simp [*];done) | (rw [hb9.cell (by exact lb)];simp [*];done) | (rw [hb9.cell (by exact blt)];simp [*];done)))
    ((go_at_call 91;refine (HCL.1 _ (by first | exact Below.refl _ _ | exact Below.drew (Below.refl _ _))).mono ?_;rintro e w9 ⟨rfl,hb9⟩))
   all_goals
    have hb:Below wr.heap.size wr w9:=by first | exact (Below.drew (Below.refl _ _)).trans hb9 | exact hb9
    have HGN:=Sh.mk (And.intro (HG.1.1.below hb) (HG.1.2.stays hb))
    clear hb hb9
    go_wp2_with fail
    go_roundw
    case rel=>exact ⟨k+1,z+q,rfl,by go_num,by omega,by omega,by push_cast;omega,⟨by rw [HST.1,HZ.1]⟩,HGN⟩
    case measure=>simp [intOf];omega
  ·have k1:¬ (k:Int)<(l:Int):=by omega
   have HE:Sh (R=z):=⟨by rw [HR.1,HZ.1,List.take_of_length_le (by have:=HL.1;omega)]⟩
   go_wp2_with fail
   go_ret
   exact ⟨by rw [HE.1];rfl,HG.1.1.bel⟩
end Go.Proofs.YtoglebfiobofoaaGreatDoor
/- TreY: . -/
namespace Go.Proofs.YtoglebfiobofoaaGreatDoor
set_option maxRecDepth 100000
set_option maxHeartbeats 16000000
open Go.RowKit
attribute [local go_sem ↓] Go.wp_at_zero Go.wp_at_succ
variable {c m:Int} {f i st:Nat} {T:TM}
def roomF (T:TM) (m:Int):Nat->Nat->Int->Bool
 | 0,_,_=>false
 | f+1,st,id=>match T.nodes.findIdx? (fun n=>n.id==id) with
  | none=>decide (0<st)
  | some k=>if (T.nodes.getD k default).dir=true/\0<(T.nodes.getD k default).quota/\(T.nodes.getD k default).quota - usedX T id<m then false else roomF T m f (st+1) (T.nodes.getD k default).parent
theorem qfx (h:T.nodes.findIdx? (fun n=>n.id==c)=none):roomF T m (f+1) st c=decide (0<st):=by
 conv=>lhs;unfold roomF
 rw [h]
theorem qlv (h:T.nodes.findIdx? (fun n=>n.id==c)=some i):roomF T m (f+1) st c=if (T.nodes.getD i default).dir=true/\0<(T.nodes.getD i default).quota/\(T.nodes.getD i default).quota - usedX T c<m then false else roomF T m f (st+1) (T.nodes.getD i default).parent:=by
 conv=>lhs;unfold roomF
 rw [h]
def roomX (T:TM) (id m:Int):Bool:=if qae T=true then roomF T m 15 0 id else false
theorem qib (h:nodeOk T i=true) (hd:(T.nodes.getD i default).dir=true):0<=(T.nodes.getD i default).quota/\(T.nodes.getD i default).quota<=1000:=by
 unfold nodeOk at h
 simp only [Bool.and_eq_true] at h
 have h3:=h.1.2
 rw [if_pos hd] at h3
 unfold dirOk at h3
 simp only [Bool.and_eq_true] at h3
 exact inI_iff.1 h3.1.1.1.2
theorem usedL_le {ns:List NM} {xs:List Int} (h:∀ x ∈ xs,0<=(ns.getD (atI ns x).toNat default).len/\(ns.getD (atI ns x).toNat default).len<=1000):0<=usedL ns xs/\usedL ns xs<=1000*xs.length:=by
 induction xs with
 | nil=>simp [usedL]
 | cons x xs ih =>
  have h1:=ih (fun y hy=>h y (by simp [hy]))
  have h2:=h x (by simp)
  simp only [usedL,List.length_cons]
  push_cast
  omega
theorem qre (T:TM) (id:Int):0<=usedX T id/\usedX T id<=14000:=by
 unfold usedX
 have h:=usedL_le (ns:=T.nodes) (xs:=qap T id) (fun x hx=>by
  obtain ⟨i,_,hat,h1⟩:=qow hx
  rw [hat,Int.toNat_natCast];exact h1)
 have:=qed T id
 omega
attribute [local irreducible] nodeOk qae atI qal qbs qap usedX
theorem specRoomFor {w:World} {v:Value} {lo hi:Nat} (id m:Int) (h:TSee w v T lo hi) (hf:NFit T):Calls Tryz.prog 136 #[v,.int .i64 id,.int .i64 m] w fun e w'=>e = .returned (.bool (roomX T id m))/\Below w.heap.size w w':=by
 have hl:T.nodes.length<=1048576:=by unfold NFit at hf;omega
 have h':=h
 obtain ⟨a,cap,rs,rfl,hr,hm⟩:=h
 obtain ⟨n,hn⟩:∃ n,n=rs.length:=⟨_,rfl⟩
 rw [<-hn] at h' ⊢
 have HTS:=Sh.mk (fun W (hW:Below w.heap.size w W) (c:Int)=>qfh c (h'.below hW) hl)
 have HUS:=Sh.mk (fun W (hW:Below w.heap.size w W) (c:Int)=>qhc c (h'.below hW) hf)
 have HTO:=Sh.mk (fun W (hW:Below w.heap.size w W)=>qdc (h'.below hW) hf)
 obtain ⟨R,hR⟩:∃ R,R=roomX T id m:=⟨_,rfl⟩
 rw [<-hR]
 unfold roomX at hR
 obtain ⟨nodes,nx⟩:=T
 dsimp only at hr HTS HUS HTO hR
 subst hr
 have HM:=Sh.mk (And.intro hm hn)
 have hn9:n<=1048576:=by dsimp only at hl;rw [qaf] at hl;omega
 have HR:=Sh.mk hR
 clear hm hf hR hn h' hl
 cases hok:qae ⟨nds rs,nx⟩ with
 | false =>
  have HE:Sh (R=false):=⟨by rw [HR.1,if_neg (by rw [hok];decide)]⟩
  rw [hok] at HTO
  clear hok
  go_enter Tryz.func136,Tryz.ntmps136
  go_upto_region 1 with fail
  refine qaa (fun W=>BX w W a n cap nx) (BX.new w a n cap nx 42) ?_
  intro W hg
  have HG:=Sh.mk hg
  have x0:=(hg.box.2 0 _ rfl).1
  have x1:=(hg.box.2 1 _ rfl).1
  clear hg
  go_wp2_with fail
  refine (HTO.1 _ HG.1.bel).mono ?_
  rintro e W1 ⟨rfl,hb1⟩
  have HG1:=Sh.mk (HG.1.below hb1)
  clear hb1
  go_wp2_with fail
  go_ret
  exact ⟨by rw [HE.1];rfl,HG1.1.bel⟩
 | true =>
  have HRR:Sh (R=roomF ⟨nds rs,nx⟩ m 15 0 id):=⟨by rw [HR.1,if_pos hok]⟩
  have HOK:=Sh.mk hok
  rw [hok] at HTO
  clear hok HR
  go_enter Tryz.func136,Tryz.ntmps136
  go_upto_region 1 with fail
  refine qaa (fun W=>BX w W a n cap nx) (BX.new w a n cap nx 42) ?_
  intro W hg
  have HG:=Sh.mk hg
  have x0:=(hg.box.2 0 _ rfl).1
  have x1:=(hg.box.2 1 _ rfl).1
  clear hg
  go_wp2_with fail
  refine (HTO.1 _ HG.1.bel).mono ?_
  rintro e W1 ⟨rfl,hb1⟩
  have HG1:=Sh.mk (HG.1.below hb1)
  clear hb1 x0 x1 HG
  go_wp2_with fail
  go_loopw [1,7] (fun iv mv wr=>∃ (s:Nat) (c:Int),iv = .int .i64 c/\mv = .int .i64 s/\s<=15/\Sh (R=roomF ⟨nds rs,nx⟩ m (15 - s) s c)/\Sh (BX w wr a n cap nx)) (fun _ mv _=>15 - (intOf mv).toNat)
  case atStart=>exact ⟨0,id,rfl,rfl,by omega,⟨HRR.1⟩,HG1⟩
  case round =>
   clear HG1
   obtain ⟨s,c,rfl,rfl,hs15,hcl,HG⟩:=hrel
   by_cases hlt:s<15
   ·have m1:(s:Int)<=14:=by omega
    obtain ⟨f,hf⟩:∃ f,f=15 - (s+1):=⟨_,rfl⟩
    have hcl':=hcl.1
    rw [show 15 - s=f+1 by omega] at hcl'
    have x0:=(HG.1.box.2 0 _ rfl).1
    have x1:=(HG.1.box.2 1 _ rfl).1
    have HAT:=Sh.mk (HTS.1 wr HG.1.bel c)
    rcases qfw (nds rs) c with ⟨hat,hfn⟩ | ⟨i,hi,hat,hfn⟩
    ·have HE:Sh (R=decide ((0:Int)<(s:Int))):=⟨by rw [hcl',qfx hfn];exact decide_eq_decide.2 ⟨fun h=>by omega,fun h=>by omega⟩⟩
     rw [hat] at HAT
     clear hcl' hcl hf hfn hat
     by_cases hs0:0<s
     ·have hsI:(0:Int)<(s:Int):=by omega
      have HF:Sh (R=true):=⟨by rw [HE.1,decide_eq_true hsI]⟩
      clear HE
      go_wp2_with fail
      refine HAT.1.mono ?_
      rintro e W6 ⟨rfl,hb6⟩
      have HG6:=Sh.mk (HG.1.below hb6)
      clear hb6
      go_wp2_with fail
      go_ret
      exact ⟨by rw [HF.1];first | rfl | simp [hs0],HG6.1.bel⟩
     ·have hs1:s=0:=by omega
      subst hs1
      have HF:Sh (R=false):=⟨by rw [HE.1];rfl⟩
      clear HE
      go_wp2_with fail
      refine HAT.1.mono ?_
      rintro e W6 ⟨rfl,hb6⟩
      have HG6:=Sh.mk (HG.1.below hb6)
      clear hb6
      go_wp2_with fail
      go_ret
      exact ⟨by rw [HF.1];rfl,HG6.1.bel⟩
    ·have hir:i<rs.length:=by rw [qaf] at hi;exact hi
     have hnk:=qcm HOK.1 (i:=i) hi
     have hqd:=fun hd=>qib hnk hd
     have hus:=qre ⟨nds rs,nx⟩ c
     have HNX:Sh (R=if rs[i].nd.dir=true/\0<rs[i].nd.quota/\rs[i].nd.quota - usedX ⟨nds rs,nx⟩ c<m then false else roomF ⟨nds rs,nx⟩ m (15 - (s+1)) (s+1) rs[i].nd.parent):=⟨by rw [hcl',qlv hfn];dsimp only;rw [qcj hir,<-hf]⟩
     dsimp only at hqd
     rw [qcj hir] at hqd
     rw [hat] at HAT
     have i0:(0:Int)<=(i:Int):=by omega
     have i1:(i:Int)<(n:Int):=by have:=HM.1.2;omega
     have i2:¬ (i:Int)<0:=by omega
     clear hcl' hcl hf hfn hat hi hnk
     go_wp2_with fail
     refine HAT.1.mono ?_
     rintro e W6 ⟨rfl,hb6⟩
     have HG6:=Sh.mk (HG.1.below hb6)
     clear hb6 x0 x1 HAT HG
     have x0:=(HG6.1.box.2 0 _ rfl).1
     have x1:=(HG6.1.box.2 1 _ rfl).1
     have hwl:w.heap.size<W6.heap.size:=HG6.1.box.1
     obtain ⟨b,off,rfl,lb,hc⟩:=TR.nat (HM.1.1.below HG6.1.bel) (by omega)
     have HC:=Sh.mk (hc i hir)
     have e1:=(hc i hir).2.1
     have e3:=(hc i hir).2.2.2.1
     have e5:=(hc i hir).2.2.2.2.2.1
     have HUC:=Sh.mk (fun W (hW:Below W6.heap.size W6 W)=>HUS.1 W (HG6.1.bel.trans (hW.mono HG6.1.bel.size)) c)
     clear hc
     generalize usedX ⟨nds rs,nx⟩ c=u at *
     generalize rs[i]=r at *
     cases hd:r.nd.dir with
     | false =>
      rw [hd] at e3
      have HN2:Sh (R=roomF ⟨nds rs,nx⟩ m (15 - (s+1)) (s+1) r.nd.parent):=⟨by rw [HNX.1,if_neg (by rw [hd];simp)]⟩
      clear hd HNX hqd
      go_wp2_with fail
      go_quiet (fail)
      go_wp2_with fail
      go_roundw
      case rel=>exact ⟨s+1,r.nd.parent,rfl,by go_num,by omega,HN2,⟨HG6.1.below ⟨rfl,rfl,rfl,Nat.le_refl _,fun _ _=>rfl⟩⟩⟩
      case measure=>simp [intOf];omega
     | true =>
      rw [hd] at e3
      have hq:=hqd hd
      by_cases hq0:0<r.nd.quota
      ·have hq0':decide ((0:Int)<r.nd.quota)=true:=by simpa using hq0
       have hwq:IntKind.i64.wrap (r.nd.quota - u)=r.nd.quota - u:=IntWalk.i64_in _ ⟨by omega,by omega⟩
       have HNX':Sh (R=if r.nd.quota - u<m then false else roomF ⟨nds rs,nx⟩ m (15 - (s+1)) (s+1) r.nd.parent):=⟨by
        rw [HNX.1]
        by_cases hc:r.nd.quota - u<m
        ·rw [if_pos hc,if_pos ⟨hd,hq0,hc⟩]
        ·rw [if_neg hc,if_neg (fun q=>hc q.2.2)]⟩
       clear hd HNX hqd
       go_wp2_with fail
       go_region_held3 (fun w'=>w'.cell? ⟨w.heap.size,0,none⟩=some (.slice (some ⟨b,off,none⟩) n cap)/\w'.cell? ⟨w.heap.size,1,none⟩=some (.int .i64 nx)/\w'.cell? ⟨b,off+i*9+3,none⟩=some (.bool true)/\w'.cell? ⟨b,off+i*9+5,none⟩=some (.int .i64 r.nd.quota))
        (first | go_keep | (refine ⟨?_,?_,?_,?_⟩ <;> first | (rw [hb9.cell (by exact hwl)];simp [*];done) | (rw [hb9.cell (by exact lb)];simp [*];done)))
        ((go_at_call 135;refine (HUC.1 _ (by first | exact Below.refl _ _ | exact Below.drew (Below.refl _ _))).mono ?_;rintro e w9 ⟨rfl,hb9⟩))
       all_goals
        have hb:Below W6.heap.size W6 w9:=by first | exact (Below.drew (Below.refl _ _)).trans hb9 | exact hb9
        have HG9:=Sh.mk (HG6.1.below hb)
        have z0:=(HG9.1.box.2 0 _ rfl).1
        have f1:=(HC.1.below hb lb).2.1
        clear hb hb9
        by_cases hc:r.nd.quota - u<m
        ·have hc':decide (r.nd.quota - u<m)=true:=by simpa using hc
         have HE:Sh (R=false):=⟨by rw [HNX'.out,if_pos hc]⟩
         clear HNX'
         go_wp2_with fail
         go_ret
         exact ⟨by rw [HE.1];rfl,HG9.1.bel⟩
        ·have hc':decide (r.nd.quota - u<m)=false:=by simpa using hc
         have HN2:Sh (R=roomF ⟨nds rs,nx⟩ m (15 - (s+1)) (s+1) r.nd.parent):=⟨by rw [HNX'.out,if_neg hc]⟩
         clear HNX'
         go_wp2_with fail
         go_roundw
         case rel=>exact ⟨s+1,r.nd.parent,rfl,by go_num,by omega,HN2,HG9⟩
         case measure=>simp [intOf];omega
      ·have hq0':decide ((0:Int)<r.nd.quota)=false:=by simpa using hq0
       have HN2:Sh (R=roomF ⟨nds rs,nx⟩ m (15 - (s+1)) (s+1) r.nd.parent):=⟨by rw [HNX.1,if_neg (fun q=>hq0 q.2.1)]⟩
       clear hd HNX hqd
       go_wp2_with fail
       go_quiet (fail)
       go_wp2_with fail
       go_roundw
       case rel=>exact ⟨s+1,r.nd.parent,rfl,by go_num,by omega,HN2,⟨HG6.1.below ⟨rfl,rfl,rfl,Nat.le_refl _,fun _ _=>rfl⟩⟩⟩
       case measure=>simp [intOf];omega
   ·have hm:s=15:=by omega
    have HE:Sh (R=false):=⟨by rw [hcl.1,hm];rfl⟩
    have m1:¬ (s:Int)<=14:=by omega
    clear hm hcl
    go_wp2_with fail
    go_ret
    exact ⟨by rw [HE.1];rfl,HG.1.bel⟩
end Go.Proofs.YtoglebfiobofoaaGreatDoor
/- ApM: . -/
namespace Go.Proofs.YtoglebfiobofoaaGreatDoor
set_option maxRecDepth 100000
set_option maxHeartbeats 16000000
def plc (T:TM) (id:Int):Nat:=(atI T.nodes id).toNat
def ndAt (T:TM) (k:Nat):NM:=T.nodes.getD k default
def setN (T:TM) (k:Nat) (x:NM):TM:=⟨T.nodes.set k x,T.next⟩
def upX (T:TM) (p:ByteArray):Int:=findX T (qab p).1
def addT (T:TM) (p:ByteArray) (x:NM):TM:=⟨T.nodes++[{ x with id:=T.next,parent:=upX T p,name:=(qab p).2.1,schema:=if x.dir then x.schema else qbk T (upX T p) }],T.next+1⟩
def addX (T:TM) (p:ByteArray) (x:NM):TM × Int:=
 if upX T p=0 then (T,1)
 else if (ndAt T (plc T (upX T p))).dir=false then (T,3)
 else if findX T p ≠ 0 then (T,2)
 else if T.nodes.length=14\/T.next=100000\/qae (addT T p x)=false then (T,8)
 else (addT T p x,0)
def moveT (T:TM) (p:ByteArray) (id:Int):TM:=setN T (plc T id) { ndAt T (plc T id) with parent:=upX T p,name:=(qab p).2.1 }
def moveX (T:TM) (p:ByteArray) (id:Int):TM × Int:=
 if upX T p=0 then (T,1)
 else if (ndAt T (plc T (upX T p))).dir=false then (T,3)
 else if findX T p ≠ 0 then (T,2)
 else if qal T.nodes 15 (upX T p) id=true then (T,7)
 else if qae (moveT T p id)=false then (T,8)
 else (moveT T p id,0)
def dropT (T:TM) (id:Int):TM:=⟨T.nodes.filter (fun n=>!qal T.nodes 15 n.id id),T.next⟩
def setX (T:TM) (e:EM) (k:Nat):TM × Int:=
 if (ndAt T k).dir=false then (T,3)
 else if e.kind=5 then (setN T k { ndAt T k with schema:=e.num },0)
 else if 0<e.num/\e.num<usedX T (ndAt T k).id then (T,5)
 else (setN T k { ndAt T k with quota:=e.num },0)
def newP (g:Int):List Int->List PM
 | []=>[]
 | l::ls=>⟨g,l⟩::newP (g+1) ls
theorem qeh (g:Int) (ls:List Int):(newP g ls).length=ls.length:=by
 induction ls generalizing g with
 | nil=>rfl
 | cons l ls ih=>simp [newP,ih]
theorem qmv (g:Int) (ls:List Int) (j:Nat) (h:j<ls.length):newP g (ls.take (j+1))=newP g (ls.take j)++[⟨g+j,ls[j]⟩]:=by
 induction ls generalizing g j with
 | nil=>simp at h
 | cons l ls ih =>
  cases j with
  | zero=>simp [newP]
  | succ j =>
   have:=ih (g+1) j (by simpa using h)
   simp only [List.take_succ_cons,newP,this,List.getElem_cons_succ,List.cons_append]
   simp
   omega
def qbr (T:TM) (e:EM) (k:Nat) (g:Int):TM × Int:=
 if (ndAt T k).dir=true then (T,3)
 else if ((e.kind==9) != ((ndAt T k).writer==0))=true then (T,6)
 else if e.kind=9 then (setN T k { ndAt T k with writer:=e.who },0)
 else if e.kind=8 then (setN T k { ndAt T k with writer:=0 },0)
 else if roomX T (ndAt T k).id e.num=false\/1000<(ndAt T k).len+e.num then (T,5)
 else if 40<(ndAt T k).pieces.length+(qaw (ndAt T k).schema e.num).length then (T,8)
 else (setN T k { ndAt T k with pieces:=(ndAt T k).pieces++newP g (qaw (ndAt T k).schema e.num),len:=(ndAt T k).len+e.num },0)
def newDir:NM:=⟨0,0,⟨#[]⟩,true,0,0,0,[],0⟩
def qdd (who:Int):NM:=⟨0,0,⟨#[]⟩,false,0,0,0,[],who⟩
def mayX (T:TM) (e:EM) (g:Int):Bool:=qae T&&qat e&&inI g 1 99000
def qam (T:TM) (e:EM) (g:Int):TM × Int:=
 if mayX T e g=false then (T,7)
 else if e.kind=10 then (T,0)
 else if e.kind=1 then addX T e.path newDir
 else if e.kind=2 then addX T e.path (qdd e.who)
 else if findX T e.path=0 then (T,1)
 else if e.kind=3 then moveX T e.dest (findX T e.path)
 else if e.kind=4 then (dropT T (findX T e.path),0)
 else if e.kind=5\/e.kind=6 then setX T e (plc T (findX T e.path))
 else qbr T e (plc T (findX T e.path)) g
def qba (T:TM) (e:EM) (g:Int):Int:=
 if (qam T e g).2 ≠ 0 then g
 else if e.kind=10 then g+20
 else if e.kind ≠ 7 then g
 else g+(ndAt (qam T e g).1 (plc T (findX T e.path))).pieces.length - (ndAt T (plc T (findX T e.path))).pieces.length
def stepX (s:TM × Int) (e:EM):TM × Int:=if (qam s.1 e s.2).2=0 then ((qam s.1 e s.2).1,qba s.1 e s.2) else s
def allX (T:TM) (es:List EM) (g:Int):TM × Int:=es.foldl stepX (T,g)
end Go.Proofs.YtoglebfiobofoaaGreatDoor
/- ApA: . -/
namespace Go.Proofs.YtoglebfiobofoaaGreatDoor
set_option maxRecDepth 100000
set_option maxHeartbeats 16000000
open Go.RowKit
attribute [local go_sem ↓] Go.wp_at_zero Go.wp_at_succ
variable {L:List (Nat × List Value)} {rs:List NR} {r:NR} {B cap g k n:Nat} {q:Option Nat} {v:Value} {w w' w0:World}
structure MB (w0 w:World) (L:List (Nat × List Value)):Prop where
 box:∀ p ∈ L,WCells w p.1 p.2/\w0.heap.size<=p.1
 dist:L.Pairwise fun p q=>p.1 ≠ q.1
 bel:Below w0.heap.size w0 w
theorem MB.nil (w:World):MB w w []:=⟨by simp,List.Pairwise.nil,Below.refl _ _⟩
theorem MB.below (h:MB w0 w L) (hb:Below w.heap.size w w'):MB w0 w' L:=
 ⟨fun p hp=>⟨(h.box p hp).1.grow hb,(h.box p hp).2⟩,h.dist,h.bel.trans (hb.mono h.bel.size)⟩
theorem MB.new (h:MB w0 w L) (cs:Array Value) (t:TypeId):MB w0 (w.alloc (.cells cs t)) ((w.heap.size,cs.toList)::L):=by
 have hb:Below w.heap.size w (w.alloc (.cells cs t)):=(Below.refl _ _).alloc (Nat.le_refl _) _
 refine ⟨fun p hp=>?_,List.pairwise_cons.2 ⟨fun q hq=>?_,h.dist⟩,(h.below hb).bel⟩
 ·rcases List.mem_cons.1 hp with rfl | hp
  ·exact ⟨qad w cs t,h.bel.size⟩
  ·exact (h.below hb).box p hp
 ·have:=(h.box q hq).1.1
  show w.heap.size ≠ q.1
  omega
theorem MB.at (h:MB w0 w L) (i:Nat) {g:Nat} {X:List Value} (hi:L[i]?=some (g,X)):WCells w g X/\w0.heap.size<=g:=h.box _ (List.mem_of_getElem? hi)
theorem MB.put (h:MB w0 w L) (i:Nat) {g:Nat} {X:List Value} (hi:L[i]?=some (g,X)) (j:Nat) (v:Value) (hj:j<X.length):MB w0 (w.setCell ⟨g,j,none⟩ v) (L.set i (g,X.set j v)):=by
 obtain ⟨hl,he⟩:=List.getElem?_eq_some_iff.1 hi
 have hd:=List.pairwise_iff_getElem.1 h.dist
 have hk:=h.at i hi
 refine ⟨fun p hp=>?_,List.pairwise_iff_getElem.2 fun a b ha hb hab=>?_,h.bel.setCell (p:=⟨g,j,none⟩) hk.2 _⟩
 ·obtain ⟨k,hk',rfl⟩:=List.mem_iff_getElem.1 hp
  rw [List.length_set] at hk'
  rw [List.getElem_set]
  split
  ·exact ⟨hk.1.set j v hj,hk.2⟩
  ·rename_i hne
   refine ⟨(h.box _ (List.getElem_mem hk')).1.other _ _ ?_,(h.box _ (List.getElem_mem hk')).2⟩
   show L[k].1 ≠ g
   have e:L[i].1=g:=by rw [he]
   rcases Nat.lt_or_gt_of_ne hne with q | q
   ·have:=hd i k hl hk' q;omega
   ·have:=hd k i hk' hl q;omega
 ·rw [List.length_set] at ha hb
  have:=hd a b ha hb hab
  have e:L[i].1=g:=by rw [he]
  rw [List.getElem_set,List.getElem_set]
  split
  ·rename_i h1
   subst h1
   split
   ·omega
   ·show g ≠ L[b].1;omega
  ·split
   ·rename_i h2
    subst h2
    show L[a].1 ≠ g
    omega
   ·exact this
theorem MB.far (h:MB w0 w L) (hg:w.grownBy w' q) (hq:∀ p ∈ L,q ≠ some p.1) (h0:∀ k,q=some k->w0.heap.size<=k):MB w0 w' L:=
 ⟨fun p hp=>⟨wc_by (h.box p hp).1 hg (hq p hp),(h.box p hp).2⟩,h.dist,h.bel.grown hg h.bel.size h0⟩
theorem qhf (rs:List NR) (k:Nat) (hk:k<rs.length) (f:Nat) (hf:f<9) (x:Value) (r:NR) (hc:qaj r=(qaj rs[k]).set f x):(ncs rs).set (k*9+f) x=ncs (rs.set k r):=by
 apply List.ext_getElem?
 intro i
 rw [List.getElem?_set]
 have hlen:=qdt rs
 have hlen2:(ncs (rs.set k r)).length=rs.length*9:=by rw [qdt,List.length_set]
 by_cases hi:i<rs.length*9
 ·have e1:i / 9<rs.length:=by omega
  have e2:i % 9<9:=by omega
  have e3:i=i / 9*9+i % 9:=by omega
  have a1:(ncs rs)[i]?=(qaj rs[i / 9])[i % 9]?:=by
   rw [show (ncs rs)[i]?=(ncs rs)[i / 9*9+i % 9]? by rw [<-e3]]
   exact flat_get qao rs (i / 9) e1 (i % 9) e2
  have a2:(ncs (rs.set k r))[i]?=(qaj ((rs.set k r)[i / 9]'(by rw [List.length_set];exact e1)))[i % 9]?:=by
   rw [show (ncs (rs.set k r))[i]?=(ncs (rs.set k r))[i / 9*9+i % 9]? by rw [<-e3]]
   exact flat_get qao (rs.set k r) (i / 9) (by rw [List.length_set];exact e1) (i % 9) e2
  rw [a2,List.getElem_set]
  by_cases hik:k*9+f=i
  ·have b1:k=i / 9:=by omega
   have b2:f=i % 9:=by omega
   rw [if_pos hik,if_pos b1,hc,<-b2,List.getElem?_set_self (by rw [qao];exact hf),if_pos (by rw [hlen];omega)]
  ·rw [if_neg hik,a1]
   by_cases b1:k=i / 9
   ·rw [if_pos b1,hc,List.getElem?_set_ne (by omega)]
    congr 2
    exact (getElem_congr_idx b1).symm
   ·rw [if_neg b1]
 ·rw [if_neg (by omega),List.getElem?_eq_none (by omega),List.getElem?_eq_none (by omega)]
theorem qfk {B n c sz:Nat} {t:TypeId} {q:Addr} {L:List Value} (h:w.ownsRow B t sz (.slice (some q) n c) n L):q=⟨q.block,0,none⟩:=by
 rcases h.2 with ⟨e,_⟩ | ⟨g,cap,cur,e,_⟩
 ·cases e
 ·simp at e
  rw [e.1]
theorem NB.grow {w w5:World} {B n cap g k gg cap1:Nat} {o:Obj} {new:PM} (h:NB w B (.slice (some ⟨g,0,none⟩) n cap) rs) (hn:rs.length=n) (hk:rs[k]?=some r) (hgrow:((w.alloc o).drew).grownBy w5 (Value.slice r.loc r.nd.pieces.length r.cap).ownBlock)
  (ho:w5.ownsRow B 138 2 (.slice (some ⟨gg,0,none⟩) (r.nd.pieces.length+1) cap1) (r.nd.pieces.length+1) (pcs r.nd.pieces++qfe new)) (hat:(Value.slice r.loc r.nd.pieces.length r.cap).ownBlock=some gg\/gg=w.heap.size+1) :
  NB (w5.setCell ⟨g,k*9+7,none⟩ (.slice (some ⟨gg,0,none⟩) (r.nd.pieces.length+1) cap1)) B (.slice (some ⟨g,0,none⟩) n cap) (rs.set k ⟨{ r.nd with pieces:=r.nd.pieces++[new] },some ⟨gg,0,none⟩,cap1⟩):=by
 subst hn
 obtain ⟨hk',er⟩:=List.getElem?_eq_some_iff.1 hk
 subst er
 have hba:Below w.heap.size w (w.alloc o).drew:=((Below.refl _ _).alloc (Nat.le_refl _) _).drew
 have hN:=h.below hba
 have hlt:∀ s ∈ rs,∀ q,s.loc=some q->q.block<w.heap.size:=fun s hs q e=>((h.rows s hs).lt q.block (by rw [e];rfl)).2
 obtain ⟨cg,hcg⟩:=qau hN.own (show (Value.slice (some ⟨g,0,none⟩) rs.length cap).ownBlock=some g from rfl)
 have hgo:(Value.slice rs[k].loc rs[k].nd.pieces.length rs[k].cap).ownBlock ≠ some g:=fun e=>by
  obtain ⟨c1,h1⟩:=qau (hN.rows _ (List.getElem_mem hk')) e
  rw [hcg] at h1
  simp at h1
 have hown5:=hN.own.kept hgrow (.inr (by intro e;exact hgo e.symm))
 have hggg:gg ≠ g:=by
  have hgl:=(h.own.lt g rfl).2
  rcases hat with e | e
  ·intro e2;rw [e2] at e;exact hgo e
  ·omega
 have hst:=(hown5.stored (k*9+7) (.slice (some ⟨gg,0,none⟩) (rs[k].nd.pieces.length+1) cap1)).1
 have ha:=List.pairwise_iff_getElem.1 h.apart
 have hap:∀ j (hj:j<rs.length),j ≠ k->rs[j].loc ≠ none->rs[k].loc ≠ none->rs[j].loc ≠ rs[k].loc:=fun j hj hjk h1 h2=>by
  rcases Nat.lt_or_gt_of_ne hjk with q | q
  ·exact ha j k hj hk' q h1 h2
  ·exact fun e=>ha k j hk' hj q h2 h1 e.symm
 refine ⟨?_,fun s hs=>?_,?_⟩
 ·rw [List.length_set,<-qhf rs k hk' 7 (by omega) (.slice (some ⟨gg,0,none⟩) (rs[k].nd.pieces.length+1) cap1) _ (by simp [qaj])]
  exact hst
 ·obtain ⟨j,hj,rfl⟩:=List.mem_iff_getElem.1 hs
  rw [List.length_set] at hj
  rw [List.getElem_set]
  split
  ·have e:pcs (rs[k].nd.pieces++[new])=pcs rs[k].nd.pieces++qfe new:=by simp [pcs]
   show World.ownsRow _ _ _ _ (.slice (some ⟨gg,0,none⟩) (rs[k].nd.pieces++[new]).length cap1) (rs[k].nd.pieces++[new]).length (pcs (rs[k].nd.pieces++[new]))
   rw [e,List.length_append,List.length_singleton]
   exact ho.kept (qak _ _ _ _) (.inr (by simp [Value.ownBlock];exact hggg))
  ·rename_i hjk
   have h1:w5.ownsRow B 138 2 (.slice rs[j].loc rs[j].nd.pieces.length rs[j].cap) rs[j].nd.pieces.length (pcs rs[j].nd.pieces):=by
    refine (hN.rows _ (List.getElem_mem hj)).kept hgrow ?_
    cases e:rs[j].loc with
    | none=>exact .inl rfl
    | some q =>
     refine .inr fun e2=>?_
     cases e3:rs[k].loc with
     | none=>rw [e3] at e2;cases e2
     | some q' =>
      have hne:=hap j hj (fun e=>hjk e.symm) (by rw [e];simp) (by rw [e3];simp)
      rw [e,e3] at hne
      rw [e3] at e2
      have z1:=qfk (by have:=h.rows _ (List.getElem_mem hj);rw [e] at this;exact this)
      have z2:=qfk (by have:=h.rows _ (List.getElem_mem hk');rw [e3] at this;exact this)
      simp [Value.ownBlock] at e2
      exact hne (by rw [z1,z2,e2])
   refine h1.kept (qak _ _ _ _) ?_
   cases e:rs[j].loc with
   | none=>exact .inl rfl
   | some q =>
    refine .inr fun e2=>?_
    obtain ⟨c1,h2⟩:=qau (hN.rows _ (List.getElem_mem hj)) (by rw [e];exact e2)
    rw [hcg] at h2
    simp at h2
 ·have hnew:∀ j (hj:j<rs.length),j ≠ k->rs[j].loc ≠ some ⟨gg,0,none⟩:=fun j hj hjk e=>by
   rcases hat with q | q
   ·cases e3:rs[k].loc with
    | none=>rw [e3] at q;cases q
    | some q' =>
     rw [e3] at q
     have z2:=qfk (by have:=h.rows _ (List.getElem_mem hk');rw [e3] at this;exact this)
     simp [Value.ownBlock] at q
     exact hap j hj hjk (by rw [e];simp) (by rw [e3];simp) (by rw [e,e3,z2,q])
   ·have:=hlt _ (List.getElem_mem hj) _ e
    simp at this
    omega
  refine List.pairwise_iff_getElem.2 fun a b ha' hb' hab=>?_
  rw [List.length_set] at ha' hb'
  rw [List.getElem_set,List.getElem_set]
  split
  ·rename_i h1
   rw [if_neg (by omega)]
   intro _ _ e
   exact hnew b hb' (by omega) e.symm
  ·split
   ·rename_i h1 h2
    intro _ _ e
    exact hnew a ha' (by omega) e
   ·exact ha a b ha' hb' hab
theorem NB.put (h:NB w B (.slice (some ⟨g,0,none⟩) rs.length cap) rs) (k:Nat) (hk:k<rs.length) (f:Nat) (hf:f<9) (x:Value) (r:NR) (hc:qaj r=(qaj rs[k]).set f x) (hl:r.loc=rs[k].loc) (hcp:r.cap=rs[k].cap) (hp:r.nd.pieces=rs[k].nd.pieces) :
  NB (w.setCell ⟨g,k*9+f,none⟩ x) B (.slice (some ⟨g,0,none⟩) rs.length cap) (rs.set k r):=by
 have hgb:=qak w g (k*9+f) x
 have hst:=(h.own.stored (k*9+f) x).1
 have hcs:=qhf rs k hk f hf x r hc
 refine ⟨?_,fun s hs=>?_,?_⟩
 ·rw [<-hcs,List.length_set]
  exact hst
 ·have hs':∃ s' ∈ rs,s.loc=s'.loc/\s.cap=s'.cap/\s.nd.pieces=s'.nd.pieces:=by
   rcases List.mem_or_eq_of_mem_set hs with q | q
   ·exact ⟨s,q,rfl,rfl,rfl⟩
   ·subst q;exact ⟨rs[k],List.getElem_mem hk,hl,hcp,hp⟩
  obtain ⟨s',hm,e1,e2,e3⟩:=hs'
  rw [e1,e2,e3]
  refine (h.rows s' hm).kept hgb ?_
  cases e:(Value.slice s'.loc s'.nd.pieces.length s'.cap).ownBlock with
  | none=>exact .inl rfl
  | some q =>
   refine .inr fun e2=>?_
   obtain ⟨c1,h1⟩:=qau (h.rows s' hm) e
   obtain ⟨c2,h2⟩:=qau h.own (show (Value.slice (some ⟨g,0,none⟩) rs.length cap).ownBlock=some g from rfl)
   cases e2
   rw [h1] at h2
   simp at h2
 ·have ha:=List.pairwise_iff_getElem.1 h.apart
  refine List.pairwise_iff_getElem.2 fun a b ha' hb' hab=>?_
  rw [List.length_set] at ha' hb'
  have:=ha a b ha' hb' hab
  rw [List.getElem_set,List.getElem_set]
  split
  ·rename_i h1
   subst h1
   rw [if_neg (by omega),hl]
   exact this
  ·split
   ·rename_i h2
    subst h2
    rw [hl]
    exact this
   ·exact this
theorem NB.cellK (h:NB w B (.slice (some ⟨g,0,none⟩) n cap) rs) (hn:rs.length=n) (hk:rs[k]?=some r) (f:Nat) (v:Value) (hv:(qaj r)[f]?=some v):w.cell? ⟨g,k*9+f,none⟩=some v/\w.frozen? ⟨g,k*9+f,none⟩=false:=by
 subst hn
 obtain ⟨hk',e⟩:=List.getElem?_eq_some_iff.1 hk
 have hw:=qar h.own
 have hf:f<9:=by have:=(List.getElem?_eq_some_iff.1 hv).1;rw [qao] at this;exact this
 exact hw.2 _ _ ((flat_get qao rs k hk' f hf).trans (by rw [e];exact hv))
theorem NB.putK (h:NB w B (.slice (some ⟨g,0,none⟩) n cap) rs) (hn:rs.length=n) (hk:rs[k]?=some r) (f:Nat) (hf:f<9) (x:Value) (r':NR) (hc:qaj r'=(qaj r).set f x) (hl:r'.loc=r.loc) (hcp:r'.cap=r.cap) (hp:r'.nd.pieces=r.nd.pieces) :
  NB (w.setCell ⟨g,k*9+f,none⟩ x) B (.slice (some ⟨g,0,none⟩) n cap) (rs.set k r'):=by
 subst hn
 obtain ⟨hk',e⟩:=List.getElem?_eq_some_iff.1 hk
 subst e
 exact h.put k hk' f hf x r' hc hl hcp hp
theorem qoz {rs rs2:List NR} (h:nds rs2=nds rs) (hk:rs[k]?=some r):∃ loc cp,rs2[k]?=some ⟨r.nd,loc,cp⟩:=by
 have h1:(nds rs2)[k]?=(nds rs)[k]?:=by rw [h]
 simp only [nds,List.getElem?_map,hk,Option.map_some] at h1
 cases h2:rs2[k]? with
 | none=>rw [h2] at h1;cases h1
 | some s =>
  rw [h2] at h1
  simp only [Option.map_some,Option.some.injEq] at h1
  exact ⟨s.loc,s.cap,by rw [<-h1]⟩
theorem NB.lts (h:NB w B v rs):∀ r ∈ rs,∀ q,r.loc=some q->q.block<w.heap.size:=fun r hr q e=>by
 have:=(h.rows r hr).lt q.block (by rw [e];rfl)
 exact this.2
theorem NB.setAway (h:NB w B v rs) (g i:Nat) (x:Value) (hv:v.ownBlock ≠ some g) (hr:∀ r ∈ rs,∀ q,r.loc=some q->q.block ≠ g):NB (w.setCell ⟨g,i,none⟩ x) B v rs:=by
 refine ⟨h.own.kept (qak w g i x) (.inr hv),fun r hr'=>(h.rows r hr').kept (qak w g i x) (.inr fun e=>?_),h.apart⟩
 cases hl:r.loc with
 | none=>rw [hl] at e;cases e
 | some q =>
  rw [hl] at e
  simp [Value.ownBlock] at e
  exact hr r hr' q hl e
theorem NB.beyond {B C:Nat} (h:NB w B v rs) (hg:w.grownBy w' q) (hq:∀ k,q=some k->C<=k) (hv:∀ k,v.ownBlock=some k->k<C) (hr:∀ r ∈ rs,∀ a,r.loc=some a->a.block<C):NB w' B v rs:=by
 refine ⟨h.own.kept hg ?_,fun r hr'=>(h.rows r hr').kept hg ?_,h.apart⟩
 ·cases e:v.ownBlock with
  | none=>exact .inl rfl
  | some k=>exact .inr fun e2=>by have:=hq k e2.symm;have:=hv k e;omega
 ·cases e:(Value.slice r.loc r.nd.pieces.length r.cap).ownBlock with
  | none=>exact .inl rfl
  | some k =>
   refine .inr fun e2=>?_
   have h1:=hq k e2.symm
   cases hl:r.loc with
   | none=>rw [hl] at e;cases e
   | some a =>
    rw [hl] at e
    simp [Value.ownBlock] at e
    have:=hr r hr' a hl
    omega
def qdw (R:TM × Int) (w:World) (e:Ending) (w':World):Prop:=∃ v,e = .returned (.tuple #[v,.int .i64 R.2])/\TAns w' v R.1 w.heap.size w'.heap.size/\Below w.heap.size w w'
end Go.Proofs.YtoglebfiobofoaaGreatDoor
/- ApF: . -/
namespace Go.Proofs.YtoglebfiobofoaaGreatDoor
set_option maxRecDepth 100000
set_option maxHeartbeats 16000000
variable {ns:List NM} {T:TM}
theorem atI_mem {id:Int} (h:∃ n ∈ ns,n.id=id):∃ k,∃ hk:k<ns.length,atI ns id=(k:Int)/\ns[k].id=id:=by
 rcases qfg ns id with ⟨-,h2⟩ | ⟨i,hi,h1,h2⟩
 ·obtain ⟨n,hn,e⟩:=h
  exact absurd e (h2 n hn)
 ·exact ⟨i,hi,h1,h2⟩
theorem qpa (ns:List NM) (c:Int) (nm:ByteArray):∀ (ms:List NM) (z:Int),ms.foldl (kidS c nm) z=z\/∃ n ∈ ms,n.parent=c/\n.name=nm/\n.id=ms.foldl (kidS c nm) z
 | [],z=>.inl rfl
 | m::ms,z=>by
  rw [List.foldl_cons]
  rcases qpa ns c nm ms (kidS c nm z m) with h | ⟨n,hn,h1,h2,h3⟩
  ·rw [h]
   unfold kidS
   split
   ·rename_i hc
    exact .inr ⟨m,by simp,hc.1,hc.2.1,rfl⟩
   ·exact .inl rfl
  ·exact .inr ⟨n,by simp [hn],h1,h2,h3⟩
theorem qpn:∀ (L:List ByteArray) (c:Int),(∃ n ∈ ns,n.id=c)->findF ns L c=0\/∃ n ∈ ns,n.id=findF ns L c
 | [],c,h=>.inr h
 | p::ps,c,h=>by
  unfold findF
  split
  ·exact .inl rfl
  ·rename_i h0
   refine qpn ps _ ?_
   rcases qpa ns c p ns 0 with e | ⟨n,hn,-,-,e⟩
   ·exact absurd e h0
   ·exact ⟨n,hn,e⟩
theorem qki {p:ByteArray} (h:findX T p ≠ 0):∃ k,∃ hk:k<T.nodes.length,atI T.nodes (findX T p)=(k:Int)/\T.nodes[k].id=findX T p:=by
 apply atI_mem
 unfold findX at h ⊢
 split at h
 ·rename_i hc
  rw [if_pos hc]
  have h1:∃ n ∈ T.nodes,n.id=1:=by
   rcases qfg T.nodes 1 with ⟨e,-⟩ | ⟨i,hi,-,e⟩
   ·have:=hc.2;omega
   ·exact ⟨_,List.getElem_mem hi,e⟩
  rcases qpn (splitB p).1 1 h1 with e | e
  ·exact absurd e h
  ·exact e
 ·exact absurd rfl h
theorem qii (h:qae T=true) (i:Nat) (hi:i<T.nodes.length):nodeOk T i=true:=by
 unfold qae at h
 simp only [Bool.and_eq_true,List.all_eq_true,List.mem_range] at h
 exact h.2 i hi
theorem qbf (h:qae T=true):1<=T.nodes.length/\T.nodes.length<=14/\T.next<=100000:=by
 unfold qae at h
 simp only [Bool.and_eq_true,decide_eq_true_eq] at h
 exact ⟨h.1.1.1,h.1.1.2,h.1.2⟩
theorem getD_at {i:Nat} (hi:i<ns.length):ns.getD i default=ns[i]:=by simp [List.getD,hi]
theorem qbl (h:qae T=true) (i:Nat) (hi:i<T.nodes.length):(T.nodes[i]).name.size<=8/\(T.nodes[i]).pieces.length<=40/\(T.nodes[i]).id<T.next/\0<=(T.nodes[i]).len/\(T.nodes[i]).len<=1000/\(T.nodes[i].dir=true->dirOk T.nodes[i]=true)/\(T.nodes[i].dir=false->fileOk T.nodes[i]=true):=by
 have hn:=qii h i hi
 unfold nodeOk at hn
 rw [getD_at hi] at hn
 simp only [Bool.and_eq_true,decide_eq_true_eq,Bool.or_eq_true] at hn
 obtain ⟨⟨⟨h1,h2⟩,h3⟩,h4⟩:=hn
 have hd:(T.nodes[i].dir=true->dirOk T.nodes[i]=true):=fun e=>by rw [if_pos e] at h3;exact h3
 have hf:(T.nodes[i].dir=false->fileOk T.nodes[i]=true):=fun e=>by rw [if_neg (by rw [e];simp)] at h3;exact h3
 refine ⟨?_,?_,h1,?_,?_,hd,hf⟩
 ·rcases h4 with e | e
  ·rw [if_pos e] at h2
   unfold qbm at h2
   simp only [Bool.and_eq_true,decide_eq_true_eq] at h2
   rw [h2.1.1.2]
   decide
  ·have:=e.1.1.1.1
   unfold nameB at this
   exact (qjo this).2
 ·cases hx:T.nodes[i].dir with
  | true =>
   have:=hd hx
   unfold dirOk at this
   simp only [Bool.and_eq_true,decide_eq_true_eq] at this
   omega
  | false =>
   have:=hf hx
   unfold fileOk at this
   simp only [Bool.and_eq_true,decide_eq_true_eq] at this
   omega
 ·cases hx:T.nodes[i].dir with
  | true =>
   have:=hd hx
   unfold dirOk at this
   simp only [Bool.and_eq_true,decide_eq_true_eq,beq_iff_eq] at this
   omega
  | false=>exact (qhv (hf hx)).1
 ·cases hx:T.nodes[i].dir with
  | true =>
   have:=hd hx
   unfold dirOk at this
   simp only [Bool.and_eq_true,decide_eq_true_eq,beq_iff_eq] at this
   omega
  | false=>exact (qhv (hf hx)).2
theorem qri (ns:List NM) (c:Nat) (h:∀ n ∈ ns,n.name.size+n.pieces.length<=c):nsum ns<=c*ns.length:=by
 induction ns with
 | nil=>simp [nsum]
 | cons n ns ih =>
  have h1:=ih fun x hx=>h x (by simp [hx])
  have h2:=h n (by simp)
  simp only [nsum,List.length_cons,Nat.mul_add]
  omega
theorem nsum_app (a b:List NM):nsum (a++b)=nsum a+nsum b:=by
 induction a with
 | nil=>simp [nsum]
 | cons n a ih=>simp only [List.cons_append,nsum,ih];omega
theorem qpo (ns:List NM) (k:Nat) (x:NM):nsum (ns.set k x)<=nsum ns+(x.name.size+x.pieces.length):=by
 induction ns generalizing k with
 | nil=>simp [nsum]
 | cons n ns ih =>
  cases k with
  | zero=>simp only [List.set_cons_zero,nsum];omega
  | succ k=>have:=ih k;simp only [List.set_cons_succ,nsum];omega
theorem qgh (h:qae T=true):nsum T.nodes<=672:=by
 have h1:=qri T.nodes 48 fun n hn=>by
  obtain ⟨i,hi,rfl⟩:=List.mem_iff_getElem.1 hn
  have:=qbl h i hi
  omega
 have:=qbf h
 omega
theorem qeg (h:qae T=true):NFit T:=by
 have h1:=qgh h
 have h2:=qbf h
 unfold NFit
 omega
theorem qpb (h:qae T=true) (p:ByteArray) (x:NM) (hx:x.pieces=[]):NFit (addT T p x):=by
 have h1:=qgh h
 have h2:=qbf h
 have h3:=(qbb p).2
 unfold NFit addT
 dsimp only
 rw [nsum_app,List.length_append]
 simp only [nsum,List.length_singleton,hx,List.length_nil]
 omega
theorem qdx {k:Nat} (hk:k<T.nodes.length):ndAt T k=T.nodes[k]:=getD_at hk
theorem qpp (h:qae T=true) (p:ByteArray) (id:Int) (k:Nat) (hk:k<T.nodes.length) (hid:atI T.nodes id=(k:Int)):NFit (moveT T p id):=by
 have h1:=qgh h
 have h2:=qbf h
 have h3:=(qbb p).2
 have e:plc T id=k:=by unfold plc;rw [hid];rfl
 have hp:=qbl h k hk
 unfold NFit moveT setN
 dsimp only
 rw [e,List.length_set,qdx hk]
 have h4:=qpo T.nodes k { T.nodes[k] with parent:=upX T p,name:=(qab p).2.1 }
 dsimp only at h4
 omega
theorem qic (h:qae T=true):1<T.next:=by
 have h2:=qbf h
 have hn:=qii h 0 (by omega)
 unfold nodeOk at hn
 rw [getD_at (by omega)] at hn
 simp only [Bool.and_eq_true,decide_eq_true_eq,if_true] at hn
 have h3:=hn.1.1.2
 unfold qbm at h3
 simp only [Bool.and_eq_true,beq_iff_eq] at h3
 have h4:=hn.1.1.1
 rw [h3.1.1.1.1] at h4
 exact h4
end Go.Proofs.YtoglebfiobofoaaGreatDoor
/- EdU: . -/
namespace Go.Proofs.YtoglebfiobofoaaGreatDoor
set_option maxRecDepth 100000
set_option maxHeartbeats 16000000
open Go.RowKit
open Go.PlainAid (bt)
attribute [local go_sem ↓] Go.wp_at_zero Go.wp_at_succ
variable {s:ByteArray} {R a:Nat} {w w':World}
def noRec:List PanicEntry:=[{ v:=.iface 255 (.agg #[]),recovered:=false }]
theorem qew (w:World):Calls Tryz.prog 147 #[.bool true] w fun e w'=>e = .returned (.tuple #[])/\w'=w:=by
 go_enter Tryz.func147,Tryz.ntmps147
 go_wp2
 refine ⟨rfl,.tuple #[],?_,rfl,rfl⟩
 simp [results,Tryz.results147,go_sem]
theorem qde (w:World):Calls Tryz.prog 147 #[.bool false] w fun e w'=>e = .panicked noRec/\w'=w:=by
 go_enter Tryz.func147,Tryz.ntmps147
 go_wp2
 exact ⟨rfl,rfl,rfl⟩
theorem qqb (x:World):Calls Tryz.prog 147 #[.bool true] x fun e y=>e = .returned (.tuple #[])/\Below x.heap.size x y:=
 (qew x).mono (by rintro e y ⟨rfl,rfl⟩;exact ⟨rfl,Below.refl _ _⟩)
theorem Turned.put {lo hi:Nat} (h:Turned w w' lo hi) (p:Addr) (v:Value) (h1:lo<=p.block) (h2:p.block<hi):Turned w (w'.setCell p v) lo hi:=
 ⟨h.base.setCell (Nat.zero_le _) v,fun k hk ho=>by rw [Below.heap_setCell _ _ _ _ (by omega)];exact h.block k hk ho⟩
def RdC (w:World) (R:Nat) (s:ByteArray) (a:Nat):Prop:=WCells w R [.string s,.int .i64 (a:Nat)]
theorem RdC.got (h:RdC w R s a):w.cell? ⟨R,0,none⟩=some (.string s)/\w.cell? ⟨R,1,none⟩=some (.int .i64 (a:Nat)):=⟨(h.2 0 _ rfl).1,(h.2 1 _ rfl).1⟩
theorem RdC.later (h:RdC w R s a) (hb:Below w.heap.size w w'):RdC w' R s a:=WCells.grow h hb
theorem RdC.put (h:RdC w R s a) (b:Nat):RdC (w.setCell ⟨R,1,none⟩ (.int .i64 (b:Nat))) R s b:=WCells.set h 1 _ (by simp)
theorem qkv (R:Nat) (s:ByteArray) (a:Nat) (w:World) (h:RdC w R s a) (ha:s.size<=a):Calls Tryz.prog 144 #[.pointer (some ⟨R,0,none⟩)] w fun e w'=>e = .panicked noRec/\Below w.heap.size w w':=by
 have hd:decide (a<s.size)=false:=by simp;omega
 clear ha
 go_enter Tryz.func144,Tryz.ntmps144
 go_upto_region 1 with fail
 have HLE:Sh (∀ x,Later w.drew x->x.cell? ⟨R,0,none⟩=some (.string s)/\x.cell? ⟨R,1,none⟩=some (.int .i64 (a:Nat))):=⟨fun x hx=>(h.later (Below.trans (Below.drew (Below.refl _ _)) hx)).got⟩
 have HH:=Sh.mk h
 clear h
 refine qag (by kernel_rfl) ?_
 refine wpL_v 0 rfl (fun x hx=>by go_simp;try with_reducible rfl) ?_
 try simp only [Act.put,qA,qB,qC]
 refine wpL_v 1 rfl (fun x hx=>by go_simp;try with_reducible rfl) ?_
 try simp only [Act.put,qA,qB,qC]
 refine wpL_v 2 rfl (fun x hx=>by go_simp;try with_reducible rfl) ?_
 try simp only [Act.put,qA,qB,qC]
 refine wpL_v 3 rfl (fun x hx=>by obtain ⟨c0,c1⟩:=HLE.1 x hx;go_simp;try with_reducible rfl) ?_
 try simp only [Act.put,qA,qB,qC]
 refine wpL_v 4 rfl (fun x hx=>by go_simp;try with_reducible rfl) ?_
 try simp only [Act.put,qA,qB,qC]
 refine wpL_v 5 rfl (fun x hx=>by go_simp;try with_reducible rfl) ?_
 try simp only [Act.put,qA,qB,qC]
 refine wpL_v 6 rfl (fun x hx=>by go_simp;try with_reducible rfl) ?_
 try simp only [Act.put,qA,qB,qC]
 refine wpL_v 7 rfl (fun x hx=>by obtain ⟨c0,c1⟩:=HLE.1 x hx;go_simp;try with_reducible rfl) ?_
 try simp only [Act.put,qA,qB,qC]
 refine wpL_v 8 rfl (fun x hx=>by go_simp;try with_reducible rfl) ?_
 try simp only [Act.put,qA,qB,qC]
 refine wpL_v 9 rfl (fun x hx=>by go_simp;try with_reducible rfl) ?_
 try simp only [Act.put,qA,qB,qC]
 refine qhl (i:=10) (f:=147) (args:=#[.bool false]) (chain:=noRec) (by kernel_rfl) rfl (by rfl) ?hy10 ?hc10
 case hy10=>(intro x hx;go_simp;try with_reducible rfl)
 intro x hx
 refine (qde x).mono ?_
 rintro e y ⟨rfl,rfl⟩
 exact ⟨rfl,rfl,rfl,Below.trans (Below.drew (Below.refl _ _)) hx⟩
theorem qgc (R:Nat) (s:ByteArray) (a:Nat) (w:World) (h:RdC w R s a) (ha:a<s.size) (hs:s.size<=1048576):Calls Tryz.prog 144 #[.pointer (some ⟨R,0,none⟩)] w fun e w'=>e = .returned (.int .i64 (bt s a))/\Turned w w' R (R+1)/\RdC w' R s (a+1):=by
 have hd:decide (a<s.size)=true:=by simpa using ha
 have hb:=Go.PlainAid.get_bt s
 have hwr:=qpg s a
 go_enter Tryz.func144,Tryz.ntmps144
 go_upto_region 1 with fail
 have HLE:Sh (∀ x,Later w.drew x->x.cell? ⟨R,0,none⟩=some (.string s)/\x.cell? ⟨R,1,none⟩=some (.int .i64 (a:Nat))):=⟨fun x hx=>(h.later (Below.trans (Below.drew (Below.refl _ _)) hx)).got⟩
 have HH:=Sh.mk h
 clear h
 refine qag (by kernel_rfl) ?_
 refine wpL_v 0 rfl (fun x hx=>by go_simp;try with_reducible rfl) ?_
 try simp only [Act.put,qA,qB,qC]
 refine wpL_v 1 rfl (fun x hx=>by go_simp;try with_reducible rfl) ?_
 try simp only [Act.put,qA,qB,qC]
 refine wpL_v 2 rfl (fun x hx=>by go_simp;try with_reducible rfl) ?_
 try simp only [Act.put,qA,qB,qC]
 refine wpL_v 3 rfl (fun x hx=>by obtain ⟨c0,c1⟩:=HLE.1 x hx;go_simp;try with_reducible rfl) ?_
 try simp only [Act.put,qA,qB,qC]
 refine wpL_v 4 rfl (fun x hx=>by go_simp;try with_reducible rfl) ?_
 try simp only [Act.put,qA,qB,qC]
 refine wpL_v 5 rfl (fun x hx=>by go_simp;try with_reducible rfl) ?_
 try simp only [Act.put,qA,qB,qC]
 refine wpL_v 6 rfl (fun x hx=>by go_simp;try with_reducible rfl) ?_
 try simp only [Act.put,qA,qB,qC]
 refine wpL_v 7 rfl (fun x hx=>by obtain ⟨c0,c1⟩:=HLE.1 x hx;go_simp;try with_reducible rfl) ?_
 try simp only [Act.put,qA,qB,qC]
 refine wpL_v 8 rfl (fun x hx=>by go_simp;try with_reducible rfl) ?_
 try simp only [Act.put,qA,qB,qC]
 refine wpL_v 9 rfl (fun x hx=>by go_simp;try with_reducible rfl) ?_
 try simp only [Act.put,qA,qB,qC]
 refine qaz (i:=10) (v:=.tuple #[]) (f:=147) (args:=#[.bool true]) rfl (by kernel_rfl) (by kernel_rfl) (by kernel_rfl) (fun _ _ _ h=>h) (by rfl) ?hy10 (fun x _=>qqb x) ?rest10
 case hy10=>(intro x hx;go_simp;try with_reducible rfl)
 try simp only [Act.put,qA,qB,qC]
 refine qbg (by kernel_rfl) ?_ _
 intro y hy
 have H2:Sh (Below w.heap.size w y):=⟨Below.trans (Below.drew (Below.refl _ _)) hy⟩
 obtain ⟨c0,c1⟩:=HLE.1 y hy
 have hfz:=((HH.1.later H2.1).2 1 _ rfl).2
 clear hy HLE
 have ha2:(a:Int)<(s.size:Int):=by omega
 have ha3:(a:Int)+1<=1048576:=by omega
 go_wp2_with fail
 go_quiet (fail)
 go_wp2_with fail
 go_ret
 have H3:Below w.heap.size w (y.drewN nq):=below_drewN H2.1 nq
 exact ⟨by rw [hwr];rfl,(Turned.of_below H3 R (R+1)).put _ _ (Nat.le_refl _) (Nat.lt_succ_self _),(HH.1.later H3).put (a+1)⟩
theorem qqc (s:ByteArray) (a:Nat) (w:World) (hs:s.size<=1048576):Calls Tryz.prog 174 #[.string s,.int .i64 (a:Nat)] w fun e w'=>e = .returned (rsV (qan s (a:Nat)))/\Below w.heap.size w w':=implReadShort s a w hs
theorem qna (s:ByteArray) (a:Nat) (w:World) (hs:s.size<=1048576):Calls Tryz.prog 143 #[.string s,.int .i64 (a:Nat)] w fun e w'=>e = .returned (rvV (qaq s (a:Nat)))/\Below w.heap.size w w':=
 (qjs s a w hs).mono (by rintro e y ⟨rfl,rfl⟩;exact ⟨rfl,Below.refl _ _⟩)
theorem qhx (R:Nat) (s:ByteArray) (a:Nat) (w:World) (h:RdC w R s a) (hs:s.size<=1048576) (hn:qan s (a:Nat)=none):Calls Tryz.prog 145 #[.pointer (some ⟨R,0,none⟩)] w fun e w'=>e = .panicked noRec/\Below w.heap.size w w':=by
 have HC:=Sh.mk (fun x=>qqc s a x hs)
 rw [hn] at HC
 clear hn
 go_enter Tryz.func145,Tryz.ntmps145
 go_upto_region 1 with fail
 have HLE:Sh (∀ x,Later w.drew x->x.cell? ⟨R,0,none⟩=some (.string s)/\x.cell? ⟨R,1,none⟩=some (.int .i64 (a:Nat))):=⟨fun x hx=>(h.later (Below.trans (Below.drew (Below.refl _ _)) hx)).got⟩
 have HH:=Sh.mk h
 clear h
 refine qag (by kernel_rfl) ?_
 refine wpL_v 0 rfl (fun x hx=>by go_simp;try with_reducible rfl) ?_
 try simp only [Act.put,qA,qB,qC]
 refine wpL_v 1 rfl (fun x hx=>by go_simp;try with_reducible rfl) ?_
 try simp only [Act.put,qA,qB,qC]
 refine wpL_v 2 rfl (fun x hx=>by go_simp;try with_reducible rfl) ?_
 try simp only [Act.put,qA,qB,qC]
 refine wpL_v 3 rfl (fun x hx=>by obtain ⟨c0,c1⟩:=HLE.1 x hx;go_simp;try with_reducible rfl) ?_
 try simp only [Act.put,qA,qB,qC]
 refine wpL_v 4 rfl (fun x hx=>by go_simp;try with_reducible rfl) ?_
 try simp only [Act.put,qA,qB,qC]
 refine wpL_v 5 rfl (fun x hx=>by go_simp;try with_reducible rfl) ?_
 try simp only [Act.put,qA,qB,qC]
 refine wpL_v 6 rfl (fun x hx=>by go_simp;try with_reducible rfl) ?_
 try simp only [Act.put,qA,qB,qC]
 refine wpL_v 7 rfl (fun x hx=>by obtain ⟨c0,c1⟩:=HLE.1 x hx;go_simp;try with_reducible rfl) ?_
 try simp only [Act.put,qA,qB,qC]
 refine qaz (i:=8) (v:=.tuple #[.string ⟨#[]⟩,.int .i64 0,.bool false]) (f:=174) (args:=#[.string s,.int .i64 (a:Nat)]) rfl (by kernel_rfl) (by kernel_rfl) (by kernel_rfl) (fun _ _ _ h=>h) (by rfl) ?hy8 (fun x _=>HC.1 x) ?rest8
 case hy8=>(intro x hx;go_simp;try with_reducible rfl)
 try simp only [Act.put,qA,qB,qC]
 refine wpL_v 9 rfl (fun x hx=>by go_simp;try with_reducible rfl) ?_
 try simp only [Act.put,qA,qB,qC]
 refine wpL_v 10 rfl (fun x hx=>by go_simp;try with_reducible rfl) ?_
 try simp only [Act.put,qA,qB,qC]
 refine wpL_v 11 rfl (fun x hx=>by go_simp;try with_reducible rfl) ?_
 try simp only [Act.put,qA,qB,qC]
 refine wpL_v 12 rfl (fun x hx=>by go_simp;try with_reducible rfl) ?_
 try simp only [Act.put,qA,qB,qC]
 refine wpL_v 13 rfl (fun x hx=>by go_simp;try with_reducible rfl) ?_
 try simp only [Act.put,qA,qB,qC]
 refine wpL_v 14 rfl (fun x hx=>by go_simp;try with_reducible rfl) ?_
 try simp only [Act.put,qA,qB,qC]
 refine wpL_v 15 rfl (fun x hx=>by go_simp;try with_reducible rfl) ?_
 try simp only [Act.put,qA,qB,qC]
 refine qbg (by kernel_rfl) ?_ _
 intro y hy
 have H2:Sh (Below w.heap.size w y):=⟨Below.trans (Below.drew (Below.refl _ _)) hy⟩
 clear hy HLE
 go_wp2_with (go_at_call 147;refine (qde _).mono ?_;rintro e w1 ⟨rfl,rfl⟩)
 exact ⟨rfl,rfl,H2.1⟩
theorem qgj (R:Nat) (s:ByteArray) (a:Nat) (w:World) (h:RdC w R s a) (hs:s.size<=1048576) (t:ByteArray) (p:Nat) (hn:qan s (a:Nat)=some (t,p)):Calls Tryz.prog 145 #[.pointer (some ⟨R,0,none⟩)] w fun e w'=>e = .returned (.string t)/\Turned w w' R (R+1)/\RdC w' R s p:=by
 have HC:=Sh.mk (fun x=>qqc s a x hs)
 rw [hn] at HC
 clear hn
 go_enter Tryz.func145,Tryz.ntmps145
 go_upto_region 1 with fail
 have HLE:Sh (∀ x,Later w.drew x->x.cell? ⟨R,0,none⟩=some (.string s)/\x.cell? ⟨R,1,none⟩=some (.int .i64 (a:Nat))):=⟨fun x hx=>(h.later (Below.trans (Below.drew (Below.refl _ _)) hx)).got⟩
 have HH:=Sh.mk h
 clear h
 refine qag (by kernel_rfl) ?_
 refine wpL_v 0 rfl (fun x hx=>by go_simp;try with_reducible rfl) ?_
 try simp only [Act.put,qA,qB,qC]
 refine wpL_v 1 rfl (fun x hx=>by go_simp;try with_reducible rfl) ?_
 try simp only [Act.put,qA,qB,qC]
 refine wpL_v 2 rfl (fun x hx=>by go_simp;try with_reducible rfl) ?_
 try simp only [Act.put,qA,qB,qC]
 refine wpL_v 3 rfl (fun x hx=>by obtain ⟨c0,c1⟩:=HLE.1 x hx;go_simp;try with_reducible rfl) ?_
 try simp only [Act.put,qA,qB,qC]
 refine wpL_v 4 rfl (fun x hx=>by go_simp;try with_reducible rfl) ?_
 try simp only [Act.put,qA,qB,qC]
 refine wpL_v 5 rfl (fun x hx=>by go_simp;try with_reducible rfl) ?_
 try simp only [Act.put,qA,qB,qC]
 refine wpL_v 6 rfl (fun x hx=>by go_simp;try with_reducible rfl) ?_
 try simp only [Act.put,qA,qB,qC]
 refine wpL_v 7 rfl (fun x hx=>by obtain ⟨c0,c1⟩:=HLE.1 x hx;go_simp;try with_reducible rfl) ?_
 try simp only [Act.put,qA,qB,qC]
 refine qaz (i:=8) (v:=.tuple #[.string t,.int .i64 (p:Nat),.bool true]) (f:=174) (args:=#[.string s,.int .i64 (a:Nat)]) rfl (by kernel_rfl) (by kernel_rfl) (by kernel_rfl) (fun _ _ _ h=>h) (by rfl) ?hy8 (fun x _=>HC.1 x) ?rest8
 case hy8=>(intro x hx;go_simp;try with_reducible rfl)
 try simp only [Act.put,qA,qB,qC]
 refine wpL_v 9 rfl (fun x hx=>by go_simp;try with_reducible rfl) ?_
 try simp only [Act.put,qA,qB,qC]
 refine wpL_v 10 rfl (fun x hx=>by go_simp;try with_reducible rfl) ?_
 try simp only [Act.put,qA,qB,qC]
 refine wpL_v 11 rfl (fun x hx=>by go_simp;try with_reducible rfl) ?_
 try simp only [Act.put,qA,qB,qC]
 refine wpL_v 12 rfl (fun x hx=>by go_simp;try with_reducible rfl) ?_
 try simp only [Act.put,qA,qB,qC]
 refine wpL_v 13 rfl (fun x hx=>by go_simp;try with_reducible rfl) ?_
 try simp only [Act.put,qA,qB,qC]
 refine wpL_v 14 rfl (fun x hx=>by go_simp;try with_reducible rfl) ?_
 try simp only [Act.put,qA,qB,qC]
 refine wpL_v 15 rfl (fun x hx=>by go_simp;try with_reducible rfl) ?_
 try simp only [Act.put,qA,qB,qC]
 refine qbg (by kernel_rfl) ?_ _
 intro y hy
 have H2:Sh (Below w.heap.size w y):=⟨Below.trans (Below.drew (Below.refl _ _)) hy⟩
 have hfz:=((HH.1.later H2.1).2 1 _ rfl).2
 have hcl:=((HH.1.later H2.1).2 1 _ rfl).1
 clear hy HLE
 go_wp2_with (go_at_call 147;refine (qew _).mono ?_;rintro e w1 ⟨rfl,rfl⟩)
 go_ret
 exact ⟨rfl,(Turned.of_below H2.1 R (R+1)).put _ _ (Nat.le_refl _) (Nat.lt_succ_self _),(HH.1.later H2.1).put p⟩
theorem implNumber_no (R:Nat) (s:ByteArray) (a:Nat) (w:World) (h:RdC w R s a) (hs:s.size<=1048576) (hn:qaq s (a:Nat)=none):Calls Tryz.prog 146 #[.pointer (some ⟨R,0,none⟩)] w fun e w'=>e = .panicked noRec/\Below w.heap.size w w':=by
 have HC:=Sh.mk (fun x=>qna s a x hs)
 rw [hn] at HC
 clear hn
 go_enter Tryz.func146,Tryz.ntmps146
 go_upto_region 1 with fail
 have HLE:Sh (∀ x,Later w.drew x->x.cell? ⟨R,0,none⟩=some (.string s)/\x.cell? ⟨R,1,none⟩=some (.int .i64 (a:Nat))):=⟨fun x hx=>(h.later (Below.trans (Below.drew (Below.refl _ _)) hx)).got⟩
 have HH:=Sh.mk h
 clear h
 refine qag (by kernel_rfl) ?_
 refine wpL_v 0 rfl (fun x hx=>by go_simp;try with_reducible rfl) ?_
 try simp only [Act.put,qA,qB,qC]
 refine wpL_v 1 rfl (fun x hx=>by go_simp;try with_reducible rfl) ?_
 try simp only [Act.put,qA,qB,qC]
 refine wpL_v 2 rfl (fun x hx=>by go_simp;try with_reducible rfl) ?_
 try simp only [Act.put,qA,qB,qC]
 refine wpL_v 3 rfl (fun x hx=>by obtain ⟨c0,c1⟩:=HLE.1 x hx;go_simp;try with_reducible rfl) ?_
 try simp only [Act.put,qA,qB,qC]
 refine wpL_v 4 rfl (fun x hx=>by go_simp;try with_reducible rfl) ?_
 try simp only [Act.put,qA,qB,qC]
 refine wpL_v 5 rfl (fun x hx=>by go_simp;try with_reducible rfl) ?_
 try simp only [Act.put,qA,qB,qC]
 refine wpL_v 6 rfl (fun x hx=>by go_simp;try with_reducible rfl) ?_
 try simp only [Act.put,qA,qB,qC]
 refine wpL_v 7 rfl (fun x hx=>by obtain ⟨c0,c1⟩:=HLE.1 x hx;go_simp;try with_reducible rfl) ?_
 try simp only [Act.put,qA,qB,qC]
 refine qaz (i:=8) (v:=.tuple #[.int .i64 0,.int .i64 0,.bool false]) (f:=143) (args:=#[.string s,.int .i64 (a:Nat)]) rfl (by kernel_rfl) (by kernel_rfl) (by kernel_rfl) (fun _ _ _ h=>h) (by rfl) ?hy8 (fun x _=>HC.1 x) ?rest8
 case hy8=>(intro x hx;go_simp;try with_reducible rfl)
 try simp only [Act.put,qA,qB,qC]
 refine wpL_v 9 rfl (fun x hx=>by go_simp;try with_reducible rfl) ?_
 try simp only [Act.put,qA,qB,qC]
 refine wpL_v 10 rfl (fun x hx=>by go_simp;try with_reducible rfl) ?_
 try simp only [Act.put,qA,qB,qC]
 refine wpL_v 11 rfl (fun x hx=>by go_simp;try with_reducible rfl) ?_
 try simp only [Act.put,qA,qB,qC]
 refine wpL_v 12 rfl (fun x hx=>by go_simp;try with_reducible rfl) ?_
 try simp only [Act.put,qA,qB,qC]
 refine wpL_v 13 rfl (fun x hx=>by go_simp;try with_reducible rfl) ?_
 try simp only [Act.put,qA,qB,qC]
 refine wpL_v 14 rfl (fun x hx=>by go_simp;try with_reducible rfl) ?_
 try simp only [Act.put,qA,qB,qC]
 refine wpL_v 15 rfl (fun x hx=>by go_simp;try with_reducible rfl) ?_
 try simp only [Act.put,qA,qB,qC]
 refine qbg (by kernel_rfl) ?_ _
 intro y hy
 have H2:Sh (Below w.heap.size w y):=⟨Below.trans (Below.drew (Below.refl _ _)) hy⟩
 clear hy HLE
 go_wp2_with (go_at_call 147;refine (qde _).mono ?_;rintro e w1 ⟨rfl,rfl⟩)
 exact ⟨rfl,rfl,H2.1⟩
theorem implNumber_yes (R:Nat) (s:ByteArray) (a:Nat) (w:World) (h:RdC w R s a) (hs:s.size<=1048576) (t:Nat) (p:Nat) (hn:qaq s (a:Nat)=some (t,p)):Calls Tryz.prog 146 #[.pointer (some ⟨R,0,none⟩)] w fun e w'=>e = .returned (.int .i64 (t:Nat))/\Turned w w' R (R+1)/\RdC w' R s p:=by
 have HC:=Sh.mk (fun x=>qna s a x hs)
 rw [hn] at HC
 clear hn
 go_enter Tryz.func146,Tryz.ntmps146
 go_upto_region 1 with fail
 have HLE:Sh (∀ x,Later w.drew x->x.cell? ⟨R,0,none⟩=some (.string s)/\x.cell? ⟨R,1,none⟩=some (.int .i64 (a:Nat))):=⟨fun x hx=>(h.later (Below.trans (Below.drew (Below.refl _ _)) hx)).got⟩
 have HH:=Sh.mk h
 clear h
 refine qag (by kernel_rfl) ?_
 refine wpL_v 0 rfl (fun x hx=>by go_simp;try with_reducible rfl) ?_
 try simp only [Act.put,qA,qB,qC]
 refine wpL_v 1 rfl (fun x hx=>by go_simp;try with_reducible rfl) ?_
 try simp only [Act.put,qA,qB,qC]
 refine wpL_v 2 rfl (fun x hx=>by go_simp;try with_reducible rfl) ?_
 try simp only [Act.put,qA,qB,qC]
 refine wpL_v 3 rfl (fun x hx=>by obtain ⟨c0,c1⟩:=HLE.1 x hx;go_simp;try with_reducible rfl) ?_
 try simp only [Act.put,qA,qB,qC]
 refine wpL_v 4 rfl (fun x hx=>by go_simp;try with_reducible rfl) ?_
 try simp only [Act.put,qA,qB,qC]
 refine wpL_v 5 rfl (fun x hx=>by go_simp;try with_reducible rfl) ?_
 try simp only [Act.put,qA,qB,qC]
 refine wpL_v 6 rfl (fun x hx=>by go_simp;try with_reducible rfl) ?_
 try simp only [Act.put,qA,qB,qC]
 refine wpL_v 7 rfl (fun x hx=>by obtain ⟨c0,c1⟩:=HLE.1 x hx;go_simp;try with_reducible rfl) ?_
 try simp only [Act.put,qA,qB,qC]
 refine qaz (i:=8) (v:=.tuple #[.int .i64 (t:Nat),.int .i64 (p:Nat),.bool true]) (f:=143) (args:=#[.string s,.int .i64 (a:Nat)]) rfl (by kernel_rfl) (by kernel_rfl) (by kernel_rfl) (fun _ _ _ h=>h) (by rfl) ?hy8 (fun x _=>HC.1 x) ?rest8
 case hy8=>(intro x hx;go_simp;try with_reducible rfl)
 try simp only [Act.put,qA,qB,qC]
 refine wpL_v 9 rfl (fun x hx=>by go_simp;try with_reducible rfl) ?_
 try simp only [Act.put,qA,qB,qC]
 refine wpL_v 10 rfl (fun x hx=>by go_simp;try with_reducible rfl) ?_
 try simp only [Act.put,qA,qB,qC]
 refine wpL_v 11 rfl (fun x hx=>by go_simp;try with_reducible rfl) ?_
 try simp only [Act.put,qA,qB,qC]
 refine wpL_v 12 rfl (fun x hx=>by go_simp;try with_reducible rfl) ?_
 try simp only [Act.put,qA,qB,qC]
 refine wpL_v 13 rfl (fun x hx=>by go_simp;try with_reducible rfl) ?_
 try simp only [Act.put,qA,qB,qC]
 refine wpL_v 14 rfl (fun x hx=>by go_simp;try with_reducible rfl) ?_
 try simp only [Act.put,qA,qB,qC]
 refine wpL_v 15 rfl (fun x hx=>by go_simp;try with_reducible rfl) ?_
 try simp only [Act.put,qA,qB,qC]
 refine qbg (by kernel_rfl) ?_ _
 intro y hy
 have H2:Sh (Below w.heap.size w y):=⟨Below.trans (Below.drew (Below.refl _ _)) hy⟩
 have hfz:=((HH.1.later H2.1).2 1 _ rfl).2
 have hcl:=((HH.1.later H2.1).2 1 _ rfl).1
 clear hy HLE
 go_wp2_with (go_at_call 147;refine (qew _).mono ?_;rintro e w1 ⟨rfl,rfl⟩)
 go_ret
 exact ⟨rfl,(Turned.of_below H2.1 R (R+1)).put _ _ (Nat.le_refl _) (Nat.lt_succ_self _),(HH.1.later H2.1).put p⟩
end Go.Proofs.YtoglebfiobofoaaGreatDoor
