/- Texts of ours, laid one behind the other: RecP. -/
import Derived.Test.YtoglebfiobofoaaGreatDoorQr13
import Derived.Test.YtoglebfiobofoaaGreatDoorQr15
import Derived.Test.YtoglebfiobofoaaGreatDoorQr5
import Derived.Test.YtoglebfiobofoaaGreatDoorQr9
/- RecP: . -/
namespace Go.Proofs.YtoglebfiobofoaaGreatDoor
set_option maxRecDepth 100000
set_option maxHeartbeats 16000000
open Go.RowKit BigFrame
attribute [local go_sem ↓] Go.wp_at_zero Go.wp_at_succ
abbrev rcR (h:Nat) (a:Option Addr) (n cap lb:Nat) (la:Option Addr) (ln lc:Nat) (E:ByteArray) (X:List Value):List Str:=[bxS lb [.slice la ln lc,.string E],bxS (h+1) X,bxS h [.slice a n cap]]
abbrev rcL (b:Nat) (c:Option Addr) (m d:Nat) (T:TM) (lo hi:Nat) (S:List Str):List Str:=bxS b [.slice c m d,.int .i64 T.next]::trS (.agg #[.slice c m d,.int .i64 T.next]) T lo hi::S
theorem qjv (s:ByteArray) (w:World):Calls Tryz.prog 40 #[.string s] w fun e w'=>e = .returned (.slice (some ⟨w.heap.size,0,none⟩) 3 3)/\w'=w.alloc (.cells #[.int .i64 1,.string ⟨#[108,111,103,43]⟩,.string s,.string ⟨#[]⟩,.int .i64 2,.string ⟨#[108,111,103,43]⟩,.string ⟨#[]⟩,.string ⟨#[]⟩,.int .i64 3,.string ⟨#[108,111,103,43]⟩,.string ⟨#[]⟩,.string ⟨#[108,111,103]⟩] 37):=by
 go_enter Tryz.func40,Tryz.ntmps40
 go_wp2_with fail
 go_ret
 exact ⟨rfl,rfl⟩
theorem implRecover (a:Option Addr) (fs:List FM) (cap:Nat) (w:World) (hr:FRow w a fs) (hf:FFit fs) (hl:fs.length<=1048576) (hz:fsum fs<=1048576) (ht:SumTab w) (hg:ErrT w) :
  Calls Tryz.prog 11 #[.agg #[.slice a fs.length cap]] w fun e w'=>qoe fs w e w':=by
 obtain ⟨i0,hin,hz0,hz1,hz2⟩:=info_parts qqo
 have HRD:=Sh.mk (fun (W:World) (hb:Below w.heap.size w W)=>implReadDisk a fs cap W (hr.stays hb) hf hl hz (ht.stays hb))
 have HFN:=Sh.mk (fun (W:World) (hb:Below w.heap.size w W)=>qla a fs cap nmNew W (hr.stays hb) hf hl hz (by decide))
 rw [qmn] at HFN
 have HHF:=Sh.mk (fun (o:Option Int) (c:Int) (W:World) (hb:Below w.heap.size w W)=>implHasFault o c W (hg.stays hb))
 have HP:Sh (∀ e w',qoe fs w e w'↔RcvPost (if dOkB fs then (recT fs).1 else ⟨[],0⟩) (if dOkB fs then (recT fs).2 else 0) (if dOkB fs then recA fs else []) (dOkB fs) w e w'):=⟨fun _ _=>Iff.rfl⟩
 have HLF:=Sh.mk (And.intro (qqp (txtOf fs nmLog)) (qqh (txtOf fs nmLog)))
 unfold recA recT at HP
 unfold qpm rdT rdF rdE at HRD
 generalize txtOf fs nmLog=s at HRD HP HLF
 generalize isAt fs nmNew=has at HFN HP
 generalize txtOf fs nmNew=t1 at HFN
 generalize dOkB fs=dk at HRD HP
 unfold nmNew at HFN
 obtain ⟨n,hn⟩:∃ n,n=fs.length:=⟨_,rfl⟩
 rw [<-hn] at HRD HFN ⊢
 clear hr hf hl hz ht hg hn
 have HS0:=Sh.mk (((SL.start w).new #[.slice a n cap] 28).new #[.slice none 0 0,.int .i64 0] 42)
 simp only [World.size_alloc] at HS0
 go_enter Tryz.func11,Tryz.ntmps11
 go_upto_region 1 with fail
 refine qaa (fun W=>SL w W [bxS (w.heap.size+1) [.slice none 0 0,.int .i64 0],bxS w.heap.size [.slice a n cap]]) HS0.1 ?_
 intro W0 hS0
 have H0:=Sh.mk hS0
 clear hS0 HS0
 have x0:=(H0.1.bx 1 rfl 0 _ rfl).1
 cases dk with
 | false =>
  simp only [Bool.false_eq_true,if_false] at HP HRD
  go_wp2_with (first
   | (go_at_call 35;refine (HRD.1 _ H0.1.bel).mono ?_;rintro e w1 ⟨v1,rfl,ho,hb⟩;obtain ⟨la,lc,rfl⟩:=qih ho;replace H0:=Sh.mk ((H0.1.below hb).new #[.slice la 0 lc,.string ⟨#[]⟩] 72);clear ho hb x0)
   | (go_at_call 36;refine (HHF.1 (some 1) 1 _ H0.1.bel).mono ?_;rintro e w2 ⟨rfl,hb⟩;replace H0:=Sh.mk (H0.1.below hb);clear hb;obtain ⟨y0,y0'⟩:=H0.1.bx 1 rfl 0 _ rfl;obtain ⟨y1,y1'⟩:=H0.1.bx 1 rfl 1 _ rfl))
  have hS:=(H0.1.put 1 rfl 0 (.slice none 0 0) (by simp)).put 1 rfl 1 (.int .i64 0) (by simp)
  refine qac (fun W=>SL w W [bxS w1.heap.size [.slice la 0 lc,.string ⟨#[]⟩],bxS (w.heap.size+1) [.slice none 0 0,.int .i64 0],bxS w.heap.size [.slice a n cap]]) hS ?_
  intro W9 h9
  have r0:=(h9.bx 1 rfl 0 _ rfl).1
  have r1:=(h9.bx 1 rfl 1 _ rfl).1
  refine bodyPost_ret (v:=.tuple #[.agg #[.slice none 0 0,.int .i64 0],.int .i64 0,.slice none 0 0,.bool false]) (by simp [results,Tryz.results11,go_sem,r0,r1]) rfl ((HP.1 _ _).2 ?_)
  exact RcvPost.mk (B:=w.heap.size) (lo:=W9.heap.size) (hi:=W9.heap.size) (hi':=W9.heap.size) (qod _ _ _) ⟨World.ownsRow_nil _ _ _ _,(fun q e=>by cases e),Nat.le_refl _⟩ (Nat.le_refl _) h9.bel.size (Nat.le_refl _) h9.bel.size h9.bel
 | true =>
 simp only [if_true] at HP HRD
 obtain ⟨fv,hfv⟩:∃ q,q=(if logAt s<s.size then some (2:Int) else none):=⟨_,rfl⟩
 have hd1:decide (fv=some 1)=false:=by rw [hfv];split <;> simp
 obtain ⟨lt,hlt⟩:∃ b,b=decide (logAt s<s.size):=⟨_,rfl⟩
 have hd2:decide (fv=some 2)=lt:=by rw [hfv,hlt];split <;> simp_all
 have HLT:Sh (∀ X:List AM,(if logAt s<s.size then X else [])=if lt then X else []):=⟨fun X=>by rw [hlt];simp⟩
 simp only [HLT.1] at HP
 rw [<-hfv] at HRD
 obtain ⟨E,hE⟩:∃ E,E=s.extract 0 (logAt s):=⟨_,rfl⟩
 rw [<-hE] at HRD HP
 generalize logE s=L at HRD HLF HP
 obtain ⟨T5,g5,hT5⟩:∃ T g,allX newX L 1=(T,g):=⟨_,_,rfl⟩
 obtain ⟨ln,hln⟩:∃ q,q=L.length:=⟨_,rfl⟩
 have HAA:Sh (∀ {W:World} {v:Value} {lo hi:Nat} (la:Option Addr) (lc l1 l2:Nat),TSee W v newX lo hi->RRow W la (ecs L) l1 l2->Calls Tryz.prog 37 #[v,.slice la ln lc,.int .i64 1] W fun r w'=>qdw (T5,g5) W r w'):=⟨fun {W v lo hi} la lc l1 l2 h1 h2=>by
  have:=implApplyAll la lc L l1 l2 1 h1 qip newX_int h2 HLF.1.1 (by have:=HLF.1.2;omega)
  rw [hT5,<-hln] at this
  exact this⟩
 unfold qdw at HAA
 rw [hT5] at HP
 rw [<-hln] at HRD
 have HLN:=Sh.mk hln
 have HD1:=Sh.mk hd1
 have HD2:=Sh.mk hd2
 clear hT5 hln hd1 hd2 hfv hlt hE HLT
 go_upto_region 2 with (go_at_call 35;refine (HRD.1 _ H0.1.bel).mono ?_;rintro e w1 ⟨v1,rfl,ho,hb⟩;obtain ⟨la,lc,rfl⟩:=qih ho;have HR:=Sh.mk ((qfm ho (fun h0 e0=>by rw [qpf,<-HLN.1,e0] at h0;omega)).below ((Below.refl w1.heap.size w1).alloc (Nat.le_refl _) (.cells #[.slice la ln lc,.string E] 72)));replace H0:=Sh.mk ((H0.1.below hb).new #[.slice la ln lc,.string E] 72);clear ho hb x0)
 obtain ⟨lb,hlb⟩:∃ q,q=w1.heap.size:=⟨_,rfl⟩
 refine qaa (fun W=>SL w W (rcR w.heap.size a n cap lb la ln lc E [.slice none 0 0,.int .i64 0])/\RRow W la (ecs L) 0 w1.heap.size) ⟨by rw [hlb];exact H0.1,HR.1⟩ ?_
 rintro W1 ⟨h1,hR1⟩
 replace H0:=Sh.mk h1
 replace HR:=Sh.mk hR1
 rw [<-hlb]
 clear h1 hR1 hlb
 go_upto_region 4 with (go_at_call 36;refine (HHF.1 fv 1 _ H0.1.bel).mono ?_;rintro e w2 ⟨rfl,hb⟩;rw [HD1.1];replace H0:=Sh.mk (H0.1.below hb);replace HR:=Sh.mk (HR.1.below hb);clear hb)
 go_cut [8,9] from 21 to 28 (fun u8 u9 wq=>∃ (b8:Nat) (c8:Option Addr) (m8 d8 lo8 hi8:Nat),u8 = .pointer (some ⟨b8,0,none⟩)/\u9 = .int .i64 g5/\Sh (SL w wq (rcL b8 c8 m8 d8 T5 lo8 hi8 (rcR w.heap.size a n cap lb la ln lc E [.slice none 0 0,.int .i64 0]))))
 case first =>
  have HTX:Sh (∀ x,Later w2.drew x->SL w x (rcR w.heap.size a n cap lb la ln lc E [.slice none 0 0,.int .i64 0])):=⟨fun x hx=>H0.1.below (Below.trans (Below.drew (Below.refl _ _)) hx)⟩
  have HRX:Sh (∀ x,Later w2.drew x->RRow x la (ecs L) 0 w1.heap.size):=⟨fun x hx=>HR.1.below (Below.trans (Below.drew (Below.refl _ _)) hx)⟩
  have HLE:Sh (∀ x,Later w2.drew x->x.cell? ⟨lb,0,none⟩=some (.slice la ln lc)):=⟨fun x hx=>((HTX.1 x hx).bx 0 rfl 0 _ rfl).1⟩
  refine qgm (fun j=>decide (j=4\/j=5\/j=6\/7<j)) (by kernel_rfl) ?_
  refine qjc (i:=1) (v:=?vz1) rfl (by kernel_rfl) (by kernel_rfl) (by kernel_rfl) (by kernel_rfl) (fun _ _ _ h=>h) (by rfl) ?hyz1 ?restz1
  case hyz1=>(intro x hx;have d0:=HLE.1 x hx;go_simp;try with_reducible rfl)
  try simp only [Act.put,qA,qB,qC]
  refine qjc (i:=2) (v:=?vz2) rfl (by kernel_rfl) (by kernel_rfl) (by kernel_rfl) (by kernel_rfl) (fun _ _ _ h=>h) (by rfl) ?hyz2 ?restz2
  case hyz2=>(intro x hx;have d0:=HLE.1 x hx;go_simp;try with_reducible rfl)
  try simp only [Act.put,qA,qB,qC]
  refine qjd (f:=38) (args:=#[]) (C:=#[.slice none 0 0,.int .i64 0]) (t:=42) (i:=0) (j:=7) (by kernel_rfl) rfl rfl (by rfl) (by rfl) (fun x hx=>by go_simp) (fun x hx=>by kernel_rfl) (fun x hx=>(qji x).mono ?_) (fun x hx=>?_)
  ·rintro e y ⟨u1,rfl,hA,hby⟩
   refine ⟨_,rfl,hby,?_⟩
   obtain ⟨c1,m1,d1,rfl⟩:=qen hA
   have T1:=Sh.mk ((HTX.1 x hx).below hby)
   have R1:=Sh.mk ((HRX.1 x hx).below hby)
   have SE1:=Sh.mk hA.see
   clear hA hby hx
   try simp only [Act.put,qA,qB,qC]
   refine qjd (f:=37) (args:=#[.agg #[.slice c1 m1 d1,.int .i64 newX.next],.slice la ln lc,.int .i64 1]) (C:=#[.slice none 0 0,.int .i64 0]) (t:=42) (i:=3) (j:=7) (by kernel_rfl) rfl rfl (by rfl) (by rfl) (fun x hx=>by go_simp) (fun x hx=>by kernel_rfl) (fun x hx=>(HAA.1 la lc _ _ (SE1.1.below hx) (R1.1.below hx)).mono ?_) (fun x hx=>?_)
   ·rintro e y2 ⟨vv,rfl,hans,hb2⟩
    refine ⟨_,rfl,hb2,?_⟩
    obtain ⟨c8,m8,d8,rfl⟩:=qen hans
    have HY:=Sh.mk ((T1.1.below hx).add (s:=trS (.agg #[.slice c8 m8 d8,.int .i64 T5.next]) T5 _ _) hb2 hans (trS.loc _ _ _ _) (Nat.le_refl _) (Nat.le_refl _))
    clear hans hb2
    try simp only [Act.put,qA,qB,qC]
    clear hx
    refine qcv (i:=4) (v:=?vz3) rfl (by kernel_rfl) (by kernel_rfl) (by kernel_rfl) (by kernel_rfl) (fun _ _ _ h=>h) (by rfl) ?hyz3 ?restz3
    case hyz3=>(intro x;go_simp;try with_reducible rfl)
    try simp only [Act.put,qA,qB,qC]
    refine qcv (i:=5) (v:=?vz4) rfl (by kernel_rfl) (by kernel_rfl) (by kernel_rfl) (by kernel_rfl) (fun _ _ _ h=>h) (by rfl) ?hyz4 ?restz4
    case hyz4=>(intro x;go_simp;try with_reducible rfl)
    try simp only [Act.put,qA,qB,qC]
    refine qcv (i:=6) (v:=?vz5) rfl (by kernel_rfl) (by kernel_rfl) (by kernel_rfl) (by kernel_rfl) (fun _ _ _ h=>h) (by rfl) ?hyz5 ?restz5
    case hyz5=>(intro x;go_simp;try with_reducible rfl)
    try simp only [Act.put,qA,qB,qC]
    refine wpD_one (i:=7) (by kernel_rfl) rfl (by rfl) (fun x2 hx2=>⟨.pointer (some ⟨x2.heap.size,0,none⟩),x2.alloc (.cells #[.slice none 0 0,.int .i64 0] 42),by kernel_rfl,(Below.refl _ _).alloc (Nat.le_refl _) _,?_⟩)
    have HY2:=Sh.mk ((HY.1.below hx2).new #[.slice none 0 0,.int .i64 0] 42)
    obtain ⟨nb,hnb⟩:∃ nb,nb=x2.heap.size:=⟨_,rfl⟩
    rw [<-hnb] at HY2 ⊢
    clear hx2 hnb HY
    try simp only [Act.put,qA,qB,qC]
    refine qmd (by kernel_rfl) ?_
    intro x5 hx5
    have HY3:=Sh.mk (HY2.1.below hx5)
    obtain ⟨q0,qf0⟩:=HY3.1.bx 0 rfl 0 _ rfl
    obtain ⟨q1,qf1⟩:=HY3.1.bx 0 rfl 1 _ rfl
    refine qie (y:=(x5.setCell ⟨nb,0,none⟩ (.slice c8 m8 d8)).setCell ⟨nb,1,none⟩ (.int .i64 T5.next)) (i:=8) (by kernel_rfl) rfl (by rfl) (by go_simp) ?_
    have HZ:=Sh.mk ((HY3.1.put 0 rfl 0 (.slice c8 m8 d8) (by simp)).put 0 rfl 1 (.int .i64 T5.next) (by simp))
    clear q0 qf0 q1 qf1 hx5 HY2 HY3
    simp only [Act.put]
    refine qjb (i:=9) (v:=.int .i64 g5) rfl (by kernel_rfl) (by kernel_rfl) (by kernel_rfl) (fun _ _ _ h=>h) (by rfl) (fun x=>by go_simp) ?_
    try simp only [Act.put,qA,qB,qC]
    refine qif (by kernel_rfl) ?_ _
    go_wp2_with fail
    go_meet
    case rel=>exact ⟨nb,c8,m8,d8,_,_,rfl,rfl,⟨HZ.1⟩⟩
   ·have HW:=Sh.mk ((T1.1.below hx).new #[.slice none 0 0,.int .i64 0] 42)
    have hbx:=(Below.refl x.heap.size x).alloc (Nat.le_refl _) (.cells #[.slice none 0 0,.int .i64 0] 42)
    have HSEE:=Sh.mk ((SE1.1.below hx).below hbx)
    have HRE:=Sh.mk ((R1.1.below hx).below hbx)
    obtain ⟨nb,hnb⟩:∃ nb,nb=x.heap.size:=⟨_,rfl⟩
    rw [<-hnb] at HW ⊢
    generalize x.alloc (.cells #[.slice none 0 0,.int .i64 0] 42)=xx at HW HSEE HRE ⊢
    clear hnb hx hbx
    try simp only [Act.put,qA,qB,qC]
    refine qdi (f:=37) (args:=#[.agg #[.slice c1 m1 d1,.int .i64 newX.next],.slice la ln lc,.int .i64 1]) (i:=3) (by kernel_rfl) rfl (by rfl) (fun x hx=>by go_simp) (fun x hx=>(HAA.1 la lc _ _ (HSEE.1.below hx) (HRE.1.below hx)).mono ?_)
    rintro e y2 ⟨vv,rfl,hans,hb2⟩
    refine ⟨_,rfl,hb2,?_⟩
    obtain ⟨c8,m8,d8,rfl⟩:=qen hans
    have HY:=Sh.mk ((HW.1.below hx).add (s:=trS (.agg #[.slice c8 m8 d8,.int .i64 T5.next]) T5 _ _) hb2 hans (trS.loc _ _ _ _) (Nat.le_refl _) (Nat.le_refl _))
    clear hans hb2
    try simp only [Act.put,qA,qB,qC]
    clear hx HW HSEE HRE
    refine qcv (i:=4) (v:=?vz6) rfl (by kernel_rfl) (by kernel_rfl) (by kernel_rfl) (by kernel_rfl) (fun _ _ _ h=>h) (by rfl) ?hyz6 ?restz6
    case hyz6=>(intro x;go_simp;try with_reducible rfl)
    try simp only [Act.put,qA,qB,qC]
    refine qcv (i:=5) (v:=?vz7) rfl (by kernel_rfl) (by kernel_rfl) (by kernel_rfl) (by kernel_rfl) (fun _ _ _ h=>h) (by rfl) ?hyz7 ?restz7
    case hyz7=>(intro x;go_simp;try with_reducible rfl)
    try simp only [Act.put,qA,qB,qC]
    refine qcv (i:=6) (v:=?vz8) rfl (by kernel_rfl) (by kernel_rfl) (by kernel_rfl) (by kernel_rfl) (fun _ _ _ h=>h) (by rfl) ?hyz8 ?restz8
    case hyz8=>(intro x;go_simp;try with_reducible rfl)
    try simp only [Act.put,qA,qB,qC]
    have HY2:=HY
    clear HY
    refine qmd (by kernel_rfl) ?_
    intro x5 hx5
    have HY3:=Sh.mk (HY2.1.below hx5)
    obtain ⟨q0,qf0⟩:=HY3.1.bx 1 rfl 0 _ rfl
    obtain ⟨q1,qf1⟩:=HY3.1.bx 1 rfl 1 _ rfl
    refine qie (y:=(x5.setCell ⟨nb,0,none⟩ (.slice c8 m8 d8)).setCell ⟨nb,1,none⟩ (.int .i64 T5.next)) (i:=8) (by kernel_rfl) rfl (by rfl) (by go_simp) ?_
    have HZ:=Sh.mk ((HY3.1.put 1 rfl 0 (.slice c8 m8 d8) (by simp)).put 1 rfl 1 (.int .i64 T5.next) (by simp))
    clear q0 qf0 q1 qf1 hx5 HY2 HY3
    simp only [Act.put]
    refine qjb (i:=9) (v:=.int .i64 g5) rfl (by kernel_rfl) (by kernel_rfl) (by kernel_rfl) (fun _ _ _ h=>h) (by rfl) (fun x=>by go_simp) ?_
    try simp only [Act.put,qA,qB,qC]
    refine qif (by kernel_rfl) ?_ _
    go_wp2_with fail
    go_meet
    case rel=>exact ⟨nb,c8,m8,d8,_,_,rfl,rfl,⟨HZ.1.swap⟩⟩
  ·have HW:=Sh.mk ((HTX.1 x hx).new #[.slice none 0 0,.int .i64 0] 42)
   have hbx:=(Below.refl x.heap.size x).alloc (Nat.le_refl _) (.cells #[.slice none 0 0,.int .i64 0] 42)
   have HRE:=Sh.mk ((HRX.1 x hx).below hbx)
   obtain ⟨nb,hnb⟩:∃ nb,nb=x.heap.size:=⟨_,rfl⟩
   rw [<-hnb] at HW ⊢
   generalize x.alloc (.cells #[.slice none 0 0,.int .i64 0] 42)=xx at HW HRE ⊢
   clear hnb hx hbx
   try simp only [Act.put,qA,qB,qC]
   refine qdi (f:=38) (args:=#[]) (i:=0) (by kernel_rfl) rfl (by rfl) (fun x hx=>by go_simp) (fun x hx=>(qji x).mono ?_)
   rintro e y ⟨u1,rfl,hA,hby⟩
   refine ⟨_,rfl,hby,?_⟩
   obtain ⟨c1,m1,d1,rfl⟩:=qen hA
   have T1:=Sh.mk ((HW.1.below hx).below hby)
   have R1:=Sh.mk ((HRE.1.below hx).below hby)
   have SE1:=Sh.mk hA.see
   clear hA hby hx HW HRE
   try simp only [Act.put,qA,qB,qC]
   refine qdi (f:=37) (args:=#[.agg #[.slice c1 m1 d1,.int .i64 newX.next],.slice la ln lc,.int .i64 1]) (i:=3) (by kernel_rfl) rfl (by rfl) (fun x hx=>by go_simp) (fun x hx=>(HAA.1 la lc _ _ (SE1.1.below hx) (R1.1.below hx)).mono ?_)
   rintro e y2 ⟨vv,rfl,hans,hb2⟩
   refine ⟨_,rfl,hb2,?_⟩
   obtain ⟨c8,m8,d8,rfl⟩:=qen hans
   have HY:=Sh.mk ((T1.1.below hx).add (s:=trS (.agg #[.slice c8 m8 d8,.int .i64 T5.next]) T5 _ _) hb2 hans (trS.loc _ _ _ _) (Nat.le_refl _) (Nat.le_refl _))
   clear hans hb2
   try simp only [Act.put,qA,qB,qC]
   clear hx T1 R1 SE1
   refine qcv (i:=4) (v:=?vz9) rfl (by kernel_rfl) (by kernel_rfl) (by kernel_rfl) (by kernel_rfl) (fun _ _ _ h=>h) (by rfl) ?hyz9 ?restz9
   case hyz9=>(intro x;go_simp;try with_reducible rfl)
   try simp only [Act.put,qA,qB,qC]
   refine qcv (i:=5) (v:=?vz10) rfl (by kernel_rfl) (by kernel_rfl) (by kernel_rfl) (by kernel_rfl) (fun _ _ _ h=>h) (by rfl) ?hyz10 ?restz10
   case hyz10=>(intro x;go_simp;try with_reducible rfl)
   try simp only [Act.put,qA,qB,qC]
   refine qcv (i:=6) (v:=?vz11) rfl (by kernel_rfl) (by kernel_rfl) (by kernel_rfl) (by kernel_rfl) (fun _ _ _ h=>h) (by rfl) ?hyz11 ?restz11
   case hyz11=>(intro x;go_simp;try with_reducible rfl)
   try simp only [Act.put,qA,qB,qC]
   have HY2:=HY
   clear HY
   refine qmd (by kernel_rfl) ?_
   intro x5 hx5
   have HY3:=Sh.mk (HY2.1.below hx5)
   obtain ⟨q0,qf0⟩:=HY3.1.bx 1 rfl 0 _ rfl
   obtain ⟨q1,qf1⟩:=HY3.1.bx 1 rfl 1 _ rfl
   refine qie (y:=(x5.setCell ⟨nb,0,none⟩ (.slice c8 m8 d8)).setCell ⟨nb,1,none⟩ (.int .i64 T5.next)) (i:=8) (by kernel_rfl) rfl (by rfl) (by go_simp) ?_
   have HZ:=Sh.mk ((HY3.1.put 1 rfl 0 (.slice c8 m8 d8) (by simp)).put 1 rfl 1 (.int .i64 T5.next) (by simp))
   clear q0 qf0 q1 qf1 hx5 HY2 HY3
   simp only [Act.put]
   refine qjb (i:=9) (v:=.int .i64 g5) rfl (by kernel_rfl) (by kernel_rfl) (by kernel_rfl) (fun _ _ _ h=>h) (by rfl) (fun x=>by go_simp) ?_
   try simp only [Act.put,qA,qB,qC]
   refine qif (by kernel_rfl) ?_ _
   go_wp2_with fail
   go_meet
   case rel=>exact ⟨nb,c8,m8,d8,_,_,rfl,rfl,⟨HZ.1.swap⟩⟩
 case rest =>
 obtain ⟨b8,c8,m8,d8,lo8,hi8,rfl,rfl,HQ⟩:=hcut
 clear H0 HR HAA HRD HLF HLN HD1
 obtain ⟨B,hBe⟩:∃ q,q=wc.heap.size:=⟨_,rfl⟩
 have HB:Sh (∀ s ∈ (rcL b8 c8 m8 d8 T5 lo8 hi8 (rcR w.heap.size a n cap lb la ln lc E [.slice none 0 0,.int .i64 0])),s.hi<=B):=⟨fun s hs=>by rw [hBe];exact (HQ.1.is s hs).2.2.2⟩
 have hB0:Sh (w.heap.size<=B):=⟨by rw [hBe];exact HQ.1.bel.size⟩
 have hB1:Sh (w.heap.size+1<B):=⟨HB.1 (bxS (w.heap.size+1) [.slice none 0 0,.int .i64 0]) (by simp)⟩
 have H6:Sh (SL w wc (rcL b8 c8 m8 d8 T5 lo8 hi8 (rcR w.heap.size a n cap lb la ln lc E [.slice none 0 0,.int .i64 0]))/\AC B wc (.slice none 0 0) [] lo8 B):=⟨HQ.1,World.ownsRow_nil _ _ _ _,(fun q e=>by cases e),Nat.le_of_eq hBe⟩
 clear HQ hBe
 have x0:=(H6.1.1.bx 4 rfl 0 _ rfl).1
 go_upto_region 7 with (go_at_call 39;refine (HFN.1 _ H6.1.1.bel).mono ?_;rintro e w7 ⟨rfl,hb⟩;replace H6:=Sh.mk (And.intro (H6.1.1.below hb) (H6.1.2.below hb));clear hb x0)
 cases has with
 | false =>
  cases lt with
  | true =>
   simp only [Bool.false_eq_true,if_false,if_true] at HP
   go_upto_region 11 with (first | (go_at_call 36;refine (HHF.1 fv 2 _ H6.1.1.bel).mono ?_;rintro e w9 ⟨rfl,hb⟩;rw [HD2.1];replace H6:=Sh.mk (And.intro (H6.1.1.below hb) (H6.1.2.below hb));clear hb;have e1:=(H6.1.1.bx 2 rfl 1 _ rfl).1) | (go_at_call 40;refine (qjv _ _).mono ?_;rintro e w10 ⟨rfl,rfl⟩;clear e1) | (at_builtin;refine wpList_append_own_at _ rfl _ _ 29 rfl B 37 i0 _ 4 56 Tryz.underlying29 hin hz0 hz1 hz2 rfl (by decide) _ _ _ rfl (H6.1.2.own.alloc _) ⟨w9.heap.size,0,none⟩ 3 3 [.int .i64 1,.string ⟨#[108,111,103,43]⟩,.string E,.string ⟨#[]⟩,.int .i64 2,.string ⟨#[108,111,103,43]⟩,.string ⟨#[]⟩,.string ⟨#[]⟩,.int .i64 3,.string ⟨#[108,111,103,43]⟩,.string ⟨#[]⟩,.string ⟨#[108,111,103]⟩] rfl rfl (World.news_of_block (cs:=#[.int .i64 1,.string ⟨#[108,111,103,43]⟩,.string E,.string ⟨#[]⟩,.int .i64 2,.string ⟨#[108,111,103,43]⟩,.string ⟨#[]⟩,.string ⟨#[]⟩,.int .i64 3,.string ⟨#[108,111,103,43]⟩,.string ⟨#[]⟩,.string ⟨#[108,111,103]⟩]) (t:=37) (fr:=(0,0)) (heap_alloc_new w9 _)) (by simp [Value.oneCell']) (by simp [maxLen]) (by simp) (by have:=H6.1.2.siz;simp;omega) ?_))
   intro v8 w11 ho hg _ ha
   have hb:Below w9.heap.size w9 (w9.alloc (.cells #[.int .i64 1,.string ⟨#[108,111,103,43]⟩,.string E,.string ⟨#[]⟩,.int .i64 2,.string ⟨#[108,111,103,43]⟩,.string ⟨#[]⟩,.string ⟨#[]⟩,.int .i64 3,.string ⟨#[108,111,103,43]⟩,.string ⟨#[]⟩,.string ⟨#[108,111,103]⟩] 37)):=(Below.refl _ _).alloc (Nat.le_refl _) _
   have H8:Sh (SL w w11 (rcL b8 c8 m8 d8 T5 lo8 hi8 (rcR w.heap.size a n cap lb la ln lc E [.slice none 0 0,.int .i64 0]))/\AC B w11 v8 ([]++newA E) lo8 B):=⟨(H6.1.1.below hb).grown hg (fun q e=>⟨Nat.le_trans hB0.1 (H6.1.2.own.lt q e).1,fun s hs=>.inl (Nat.le_trans (HB.1 s hs) (H6.1.2.own.lt q e).1)⟩),H6.1.2.more hb ho rfl hg (by simpa using ha)⟩
   clear ho hg ha hb
   have q0:=(H8.1.1.bx 0 rfl 0 _ rfl).1
   have q1:=(H8.1.1.bx 0 rfl 1 _ rfl).1
   obtain ⟨y0,y0'⟩:=H8.1.1.bx 3 rfl 0 _ rfl
   obtain ⟨y1,y1'⟩:=H8.1.1.bx 3 rfl 1 _ rfl
   go_wp2_with fail
   have hS:=(H8.1.1.put 3 rfl 0 (.slice c8 m8 d8) (by simp)).put 3 rfl 1 (.int .i64 T5.next) (by simp)
   have hO:=(H8.1.2.set (w.heap.size+1) 0 (.slice c8 m8 d8) hB1.1).set (w.heap.size+1) 1 (.int .i64 T5.next) hB1.1
   refine qac (fun W=>SL w W (rcL b8 c8 m8 d8 T5 lo8 hi8 (rcR w.heap.size a n cap lb la ln lc E [.slice c8 m8 d8,.int .i64 T5.next]))/\AC B W v8 ([]++newA E) lo8 B) ⟨hS,hO⟩ ?_
   rintro W9 ⟨h9,o9⟩
   have r0:=(h9.bx 3 rfl 0 _ rfl).1
   have r1:=(h9.bx 3 rfl 1 _ rfl).1
   refine bodyPost_ret (v:=.tuple #[.agg #[.slice c8 m8 d8,.int .i64 T5.next],.int .i64 g5,v8,.bool true]) (by simp [results,Tryz.results11,go_sem,r0,r1]) rfl ((HP.1 _ _).2 ?_)
   exact RcvPost.mk (h9.at 1 rfl) o9 (HB.1 _ (List.mem_cons_of_mem _ (List.mem_cons_self ..))) ((h9.is _ (List.mem_cons_of_mem _ (List.mem_cons_self ..))).2.2.1) hB0.1 o9.siz h9.bel
  | false =>
   simp only [Bool.false_eq_true,if_false] at HP
   go_upto_region 11 with (go_at_call 36;refine (HHF.1 fv 2 _ H6.1.1.bel).mono ?_;rintro e w9 ⟨rfl,hb⟩;rw [HD2.1];replace H6:=Sh.mk (And.intro (H6.1.1.below hb) (H6.1.2.below hb));clear hb)
   have q0:=(H6.1.1.bx 0 rfl 0 _ rfl).1
   have q1:=(H6.1.1.bx 0 rfl 1 _ rfl).1
   obtain ⟨y0,y0'⟩:=H6.1.1.bx 3 rfl 0 _ rfl
   obtain ⟨y1,y1'⟩:=H6.1.1.bx 3 rfl 1 _ rfl
   go_wp2_with fail
   have hS:=(H6.1.1.put 3 rfl 0 (.slice c8 m8 d8) (by simp)).put 3 rfl 1 (.int .i64 T5.next) (by simp)
   have hO:=(H6.1.2.set (w.heap.size+1) 0 (.slice c8 m8 d8) hB1.1).set (w.heap.size+1) 1 (.int .i64 T5.next) hB1.1
   refine qac (fun W=>SL w W (rcL b8 c8 m8 d8 T5 lo8 hi8 (rcR w.heap.size a n cap lb la ln lc E [.slice c8 m8 d8,.int .i64 T5.next]))/\AC B W (.slice none 0 0) [] lo8 B) ⟨hS,hO⟩ ?_
   rintro W9 ⟨h9,o9⟩
   have r0:=(h9.bx 3 rfl 0 _ rfl).1
   have r1:=(h9.bx 3 rfl 1 _ rfl).1
   refine bodyPost_ret (v:=.tuple #[.agg #[.slice c8 m8 d8,.int .i64 T5.next],.int .i64 g5,(.slice none 0 0),.bool true]) (by simp [results,Tryz.results11,go_sem,r0,r1]) rfl ((HP.1 _ _).2 ?_)
   exact RcvPost.mk (h9.at 1 rfl) o9 (HB.1 _ (List.mem_cons_of_mem _ (List.mem_cons_self ..))) ((h9.is _ (List.mem_cons_of_mem _ (List.mem_cons_self ..))).2.2.1) hB0.1 o9.siz h9.bel
 | true =>
  go_upto_region 9 with (first | (at_builtin;refine wpList_append_own_at _ rfl _ _ 29 rfl B 37 i0 _ 4 56 Tryz.underlying29 hin hz0 hz1 hz2 rfl (by decide) _ _ _ rfl (H6.1.2.own.alloc _) ⟨w7.heap.size,0,none⟩ 1 1 [.int .i64 4,.string ⟨#[108,111,103,43]⟩,.string ⟨#[]⟩,.string ⟨#[]⟩] rfl rfl (World.news_of_block (cs:=#[.int .i64 4,.string ⟨#[108,111,103,43]⟩,.string ⟨#[]⟩,.string ⟨#[]⟩]) (t:=37) (fr:=(0,0)) (heap_alloc_new w7 _)) (by simp [Value.oneCell']) (by simp [maxLen]) (by simp) (by have:=H6.1.2.siz;simp;omega) ?_))
  intro v8 w8 ho hg _ ha
  have hb:Below w7.heap.size w7 (w7.alloc (.cells #[.int .i64 4,.string ⟨#[108,111,103,43]⟩,.string ⟨#[]⟩,.string ⟨#[]⟩] 37)):=(Below.refl _ _).alloc (Nat.le_refl _) _
  have H8:Sh (SL w w8 (rcL b8 c8 m8 d8 T5 lo8 hi8 (rcR w.heap.size a n cap lb la ln lc E [.slice none 0 0,.int .i64 0]))/\AC B w8 v8 ([]++dropA) lo8 B):=⟨(H6.1.1.below hb).grown hg (fun q e=>⟨Nat.le_trans hB0.1 (H6.1.2.own.lt q e).1,fun s hs=>.inl (Nat.le_trans (HB.1 s hs) (H6.1.2.own.lt q e).1)⟩),H6.1.2.more hb ho rfl hg (by simpa using ha)⟩
  clear ho hg ha hb
  cases lt with
  | true =>
   simp only [if_true] at HP
   go_upto_region 11 with (first | (go_at_call 36;refine (HHF.1 fv 2 _ H8.1.1.bel).mono ?_;rintro e w9 ⟨rfl,hb⟩;rw [HD2.1];replace H8:=Sh.mk (And.intro (H8.1.1.below hb) (H8.1.2.below hb));clear hb;have e1:=(H8.1.1.bx 2 rfl 1 _ rfl).1) | (go_at_call 40;refine (qjv _ _).mono ?_;rintro e w10 ⟨rfl,rfl⟩;clear e1) | (at_builtin;refine wpList_append_own_at _ rfl _ _ 29 rfl B 37 i0 _ 4 56 Tryz.underlying29 hin hz0 hz1 hz2 rfl (by decide) _ _ _ rfl (H8.1.2.own.alloc _) ⟨w9.heap.size,0,none⟩ 3 3 [.int .i64 1,.string ⟨#[108,111,103,43]⟩,.string E,.string ⟨#[]⟩,.int .i64 2,.string ⟨#[108,111,103,43]⟩,.string ⟨#[]⟩,.string ⟨#[]⟩,.int .i64 3,.string ⟨#[108,111,103,43]⟩,.string ⟨#[]⟩,.string ⟨#[108,111,103]⟩] rfl rfl (World.news_of_block (cs:=#[.int .i64 1,.string ⟨#[108,111,103,43]⟩,.string E,.string ⟨#[]⟩,.int .i64 2,.string ⟨#[108,111,103,43]⟩,.string ⟨#[]⟩,.string ⟨#[]⟩,.int .i64 3,.string ⟨#[108,111,103,43]⟩,.string ⟨#[]⟩,.string ⟨#[108,111,103]⟩]) (t:=37) (fr:=(0,0)) (heap_alloc_new w9 _)) (by simp [Value.oneCell']) (by simp [maxLen,dropA]) (by simp [dropA]) (by have:=H8.1.2.siz;simp;omega) ?_))
   intro v9 w11 ho hg _ ha
   have hb:Below w9.heap.size w9 (w9.alloc (.cells #[.int .i64 1,.string ⟨#[108,111,103,43]⟩,.string E,.string ⟨#[]⟩,.int .i64 2,.string ⟨#[108,111,103,43]⟩,.string ⟨#[]⟩,.string ⟨#[]⟩,.int .i64 3,.string ⟨#[108,111,103,43]⟩,.string ⟨#[]⟩,.string ⟨#[108,111,103]⟩] 37)):=(Below.refl _ _).alloc (Nat.le_refl _) _
   have H9:Sh (SL w w11 (rcL b8 c8 m8 d8 T5 lo8 hi8 (rcR w.heap.size a n cap lb la ln lc E [.slice none 0 0,.int .i64 0]))/\AC B w11 v9 (([]++dropA)++newA E) lo8 B):=⟨(H8.1.1.below hb).grown hg (fun q e=>⟨Nat.le_trans hB0.1 (H8.1.2.own.lt q e).1,fun s hs=>.inl (Nat.le_trans (HB.1 s hs) (H8.1.2.own.lt q e).1)⟩),H8.1.2.more hb ho rfl hg (by simpa using ha)⟩
   clear ho hg ha hb
   have q0:=(H9.1.1.bx 0 rfl 0 _ rfl).1
   have q1:=(H9.1.1.bx 0 rfl 1 _ rfl).1
   obtain ⟨y0,y0'⟩:=H9.1.1.bx 3 rfl 0 _ rfl
   obtain ⟨y1,y1'⟩:=H9.1.1.bx 3 rfl 1 _ rfl
   go_wp2_with fail
   have hS:=(H9.1.1.put 3 rfl 0 (.slice c8 m8 d8) (by simp)).put 3 rfl 1 (.int .i64 T5.next) (by simp)
   have hO:=(H9.1.2.set (w.heap.size+1) 0 (.slice c8 m8 d8) hB1.1).set (w.heap.size+1) 1 (.int .i64 T5.next) hB1.1
   refine qac (fun W=>SL w W (rcL b8 c8 m8 d8 T5 lo8 hi8 (rcR w.heap.size a n cap lb la ln lc E [.slice c8 m8 d8,.int .i64 T5.next]))/\AC B W v9 (([]++dropA)++newA E) lo8 B) ⟨hS,hO⟩ ?_
   rintro W9 ⟨h9,o9⟩
   have r0:=(h9.bx 3 rfl 0 _ rfl).1
   have r1:=(h9.bx 3 rfl 1 _ rfl).1
   refine bodyPost_ret (v:=.tuple #[.agg #[.slice c8 m8 d8,.int .i64 T5.next],.int .i64 g5,v9,.bool true]) (by simp [results,Tryz.results11,go_sem,r0,r1]) rfl ((HP.1 _ _).2 ?_)
   exact RcvPost.mk (h9.at 1 rfl) o9 (HB.1 _ (List.mem_cons_of_mem _ (List.mem_cons_self ..))) ((h9.is _ (List.mem_cons_of_mem _ (List.mem_cons_self ..))).2.2.1) hB0.1 o9.siz h9.bel
  | false =>
   simp only [Bool.false_eq_true,if_false,if_true] at HP
   go_upto_region 11 with (go_at_call 36;refine (HHF.1 fv 2 _ H8.1.1.bel).mono ?_;rintro e w9 ⟨rfl,hb⟩;rw [HD2.1];replace H8:=Sh.mk (And.intro (H8.1.1.below hb) (H8.1.2.below hb));clear hb)
   have q0:=(H8.1.1.bx 0 rfl 0 _ rfl).1
   have q1:=(H8.1.1.bx 0 rfl 1 _ rfl).1
   obtain ⟨y0,y0'⟩:=H8.1.1.bx 3 rfl 0 _ rfl
   obtain ⟨y1,y1'⟩:=H8.1.1.bx 3 rfl 1 _ rfl
   go_wp2_with fail
   have hS:=(H8.1.1.put 3 rfl 0 (.slice c8 m8 d8) (by simp)).put 3 rfl 1 (.int .i64 T5.next) (by simp)
   have hO:=(H8.1.2.set (w.heap.size+1) 0 (.slice c8 m8 d8) hB1.1).set (w.heap.size+1) 1 (.int .i64 T5.next) hB1.1
   refine qac (fun W=>SL w W (rcL b8 c8 m8 d8 T5 lo8 hi8 (rcR w.heap.size a n cap lb la ln lc E [.slice c8 m8 d8,.int .i64 T5.next]))/\AC B W v8 ([]++dropA) lo8 B) ⟨hS,hO⟩ ?_
   rintro W9 ⟨h9,o9⟩
   have r0:=(h9.bx 3 rfl 0 _ rfl).1
   have r1:=(h9.bx 3 rfl 1 _ rfl).1
   refine bodyPost_ret (v:=.tuple #[.agg #[.slice c8 m8 d8,.int .i64 T5.next],.int .i64 g5,v8,.bool true]) (by simp [results,Tryz.results11,go_sem,r0,r1]) rfl ((HP.1 _ _).2 ?_)
   exact RcvPost.mk (h9.at 1 rfl) o9 (HB.1 _ (List.mem_cons_of_mem _ (List.mem_cons_self ..))) ((h9.is _ (List.mem_cons_of_mem _ (List.mem_cons_self ..))).2.2.1) hB0.1 o9.siz h9.bel
end Go.Proofs.YtoglebfiobofoaaGreatDoor
