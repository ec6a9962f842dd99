/- Texts of ours, laid one behind the other: RecS. -/
import Derived.Test.YtoglebfiobofoaaGreatDoorQr11
import Derived.Test.YtoglebfiobofoaaGreatDoorQr4
import Derived.Test.YtoglebfiobofoaaGreatDoorQr10
/- RecS: . -/
namespace Go.Proofs.YtoglebfiobofoaaGreatDoor
set_option maxRecDepth 100000
set_option maxHeartbeats 16000000
open Go.RowKit BigFrame
attribute [local go_sem ↓] Go.wp_at_zero Go.wp_at_succ
variable {v:Value} {W w:World}
theorem fsum_mem9 {fs:List FM} {f:FM} (h:f ∈ fs):f.name.size+f.text.size<=fsum fs:=by
 induction fs with
 | nil=>cases h
 | cons g fs ih =>
  rcases List.mem_cons.1 h with rfl | h
  ·simp only [fsum];omega
  ·have:=ih h;simp only [fsum];omega
theorem txt_size (fs:List FM) (n:ByteArray):(txtOf fs n).size<=fsum fs:=by
 unfold txtOf
 cases h:fs.find? (fun f=>decide (f.name=n)) with
 | none=>exact Nat.zero_le _
 | some f =>
  have:=fsum_mem9 (List.mem_of_find?_eq_some h)
  simp only [Option.map_some,Option.getD_some]
  omega
def qoe (fs:List FM) (w:World) (e:Ending) (w':World):Prop:=
 RcvPost (if dOkB fs then (recT fs).1 else ⟨[],0⟩) (if dOkB fs then (recT fs).2 else 0) (if dOkB fs then recA fs else []) (dOkB fs) w e w'
abbrev rsL (b:Nat) (c:Option Addr) (m d:Nat) (T:TM) (lo h:Nat) (a:Option Addr) (n cap:Nat) (X:List Value):List Str:=[bxS b [.slice c m d,.int .i64 T.next],trS (.agg #[.slice c m d,.int .i64 T.next]) T lo b,bxS (h+1) X,bxS h [.slice a n cap]]
theorem AC.ok9 {w W w4 w5:World} {v u:Value} {A:List AM} {X0 X1 X2:List Value} {T:TM} {q:Nat} (h:AC (w.heap.size+1+1) W v A w4.heap.size (w5.heap.size+1)) (h5:w4.heap.size<=w5.heap.size) (e:v.ownBlock=some q):w.heap.size<=q/\∀ s ∈ [bxS w5.heap.size X0,trS u T w4.heap.size w5.heap.size,bxS (w.heap.size+1) X1,bxS w.heap.size X2],s.hi<=q\/q<s.lo:=by
 have h1:=(h.own.lt q e).1
 have h2:=h.far q e
 refine ⟨by omega,fun s hs=>?_⟩
 simp only [List.mem_cons,List.not_mem_nil,or_false] at hs
 rcases hs with rfl | rfl | rfl | rfl <;> (dsimp only [bxS,trS];omega)
theorem qdl {B t sz n:Nat} {L:List Value} (h:W.ownsRow B t sz v n L) (hb:Below W.heap.size W w):w.ownsRow B t sz v n L:=h.kept (row:=none) ⟨hb.os,hb.tape,hb.output,hb.size,fun k hk _=>hb.block k hk⟩ (Classical.em _)
theorem specRecover (a:Option Addr) (fs:List FM) (cap:Nat) (w:World) (hr:FRow w a fs) (hf:FFit fs) (hl:fs.length<=1048576) (hz:fsum fs<=1048576) :
  Calls Tryz.prog 12 #[.agg #[.slice a fs.length cap]] w fun e w'=>qoe fs w e w':=by
 obtain ⟨i0,hin,hz0,hz1,hz2⟩:=info_parts qqo
 have HDK:=Sh.mk (fun (W:World) (hb:Below w.heap.size w W)=>specDiskOk a fs cap W (hr.stays hb) hf hl)
 have HFL:=Sh.mk (fun (W:World) (hb:Below w.heap.size w W)=>qkr a fs cap nmLog W (hr.stays hb) hl)
 have HFN:=Sh.mk (fun (W:World) (hb:Below w.heap.size w W)=>qkr a fs cap nmNew W (hr.stays hb) hl)
 rw [qmn] at HFL HFN
 unfold nmLog at HFL
 unfold nmNew at HFN
 have hts:=Nat.le_trans (txt_size fs nmLog) hz
 have HP:Sh (∀ e w',qoe fs w e w'↔RcvPost (if dOkB fs then (recT fs).1 else ⟨[],0⟩) (if dOkB fs then (recT fs).2 else 0) (if dOkB fs then recA fs else []) (dOkB fs) w e w'):=⟨fun _ _=>Iff.rfl⟩
 unfold recA recT at HP
 change Sh _ at HFL
 have hnl:(⟨#[108,111,103]⟩:ByteArray)=nmLog:=rfl
 have hnn:(⟨#[108,111,103,43]⟩:ByteArray)=nmNew:=rfl
 obtain ⟨s,hse⟩:∃ s,s=txtOf fs nmLog:=⟨_,rfl⟩
 obtain ⟨has,hhe⟩:∃ b,b=isAt fs nmNew:=⟨_,rfl⟩
 rw [hnl,<-hse] at HFL
 rw [hnn,<-hhe] at HFN
 rw [<-hse] at hts
 simp only [<-hse,<-hhe] at HP
 rw [<-hnl] at HFL
 rw [<-hnn] at HFN
 generalize isAt fs nmLog=h1 at HFL
 generalize txtOf fs nmNew=t1 at HFN
 generalize dOkB fs=dk at HDK HP
 obtain ⟨n,hn⟩:∃ n,n=fs.length:=⟨_,rfl⟩
 rw [<-hn] at HDK HFL HFN ⊢
 clear hr hf hl hz hse hhe hnl hnn hn
 have HO:=Sh.mk (World.ownsRow_made (e:=37) (size:=4) (base:=w.heap.size+1+1) ((w.alloc (.cells #[.slice a n cap] 28)).alloc (.cells #[.slice none 0 0,.int .i64 0] 42)) #[] 0 (by simp) (by decide) rfl)
 have HS0:=Sh.mk (((SL.start w).new #[.slice a n cap] 28).new #[.slice none 0 0,.int .i64 0] 42)
 simp only [World.size_alloc] at HO HS0
 go_enter Tryz.func12,Tryz.ntmps12
 go_upto_region 2 with fail
 refine qaa (fun W=>SL w W [bxS (w.heap.size+1) [.slice none 0 0,.int .i64 0],bxS w.heap.size [.slice a n cap]]/\W.ownsRow (w.heap.size+1+1) 37 4 (.slice (some ⟨w.heap.size+1+1,0,none⟩) 0 0) 0 []/\w.heap.size+1+1<W.heap.size) ⟨HS0.1.below ((Below.refl _ _).alloc (Nat.le_refl _) _),HO.1,by simp⟩ ?_
 rintro W0 ⟨hS0,hO0,hz9⟩
 have H0:=Sh.mk (And.intro hS0 (And.intro hO0 hz9))
 clear hS0 hO0 HO HS0 hz9
 cases dk with
 | false =>
  have x0:=(H0.1.1.bx 1 rfl 0 _ rfl).1
  go_wp2_with (go_at_call 41;refine (HDK.1 _ H0.1.1.bel).mono ?_;rintro e w1 ⟨rfl,hb⟩;replace H0:=Sh.mk (And.intro (H0.1.1.below hb) (And.intro (qdl H0.1.2.1 hb) (Nat.lt_of_lt_of_le H0.1.2.2 hb.size)));clear hb x0;have y0:=H0.1.1.bx 0 rfl 0 _ rfl;have y1:=H0.1.1.bx 0 rfl 1 _ rfl;obtain ⟨y0,y0'⟩:=y0;obtain ⟨y1,y1'⟩:=y1)
  have hS:=(H0.1.1.put 0 rfl 0 (.slice none 0 0) (by simp)).put 0 rfl 1 (.int .i64 0) (by simp)
  have hO:=(H0.1.2.1.kept (qak _ (w.heap.size+1) 0 (.slice none 0 0)) (.inr (by simp [Value.ownBlock]))).kept (qak _ (w.heap.size+1) 1 (.int .i64 0)) (.inr (by simp [Value.ownBlock]))
  refine qac (fun W=>SL w W [bxS (w.heap.size+1) [.slice none 0 0,.int .i64 0],bxS w.heap.size [.slice a n cap]]/\W.ownsRow (w.heap.size+1+1) 37 4 (.slice (some ⟨w.heap.size+1+1,0,none⟩) 0 0) 0 []) ⟨hS,hO⟩ ?_
  rintro W9 ⟨h9,o9⟩
  have r0:=(h9.bx 0 rfl 0 _ rfl).1
  have r1:=(h9.bx 0 rfl 1 _ rfl).1
  refine bodyPost_ret (v:=.tuple #[.agg #[.slice none 0 0,.int .i64 0],.int .i64 0,.slice (some ⟨w.heap.size+1+1,0,none⟩) 0 0,.bool false]) (by simp [results,Tryz.results12,go_sem,r0,r1]) rfl ((HP.1 _ _).2 ?_)
  exact RcvPost.mk (B:=w.heap.size+1+1) (lo:=W9.heap.size) (hi:=W9.heap.size) (hi':=W9.heap.size) (qod _ _ _) ⟨o9,fun q e=>by have:=(o9.lt q e).2;omega,Nat.le_refl _⟩ (Nat.le_refl _) h9.bel.size (by omega) (by have:=(o9.lt (w.heap.size+1+1) rfl).2;omega) h9.bel
 | true =>
 simp only [if_true] at HP
 have HRL:=Sh.mk (fun W0=>specReadLog s W0 hts)
 unfold qpk at HRL
 have HLF:=Sh.mk (And.intro (qqp s) (qqh s))
 have hle:=qmk s
 have HCU:=Sh.mk (qsa s (logAt s) hle)
 obtain ⟨at0,hat⟩:∃ q,q=logAt s:=⟨_,rfl⟩
 rw [<-hat] at HRL HP HCU hle
 generalize logE s=L at HRL HLF HP
 obtain ⟨T5,g5,hT5⟩:∃ T g,allX newX L 1=(T,g):=⟨_,_,rfl⟩
 obtain ⟨ln,hln⟩:∃ q,q=L.length:=⟨_,rfl⟩
 have HAA:Sh (∀ {W:World} {v:Value} {lo hi:Nat} (la:Option Addr) (lc l1 l2:Nat),TSee W v newX lo hi->RRow W la (ecs L) l1 l2->Calls Tryz.prog 13 #[v,.slice la ln lc,.int .i64 1] W fun r w'=>qdw (T5,g5) W r w'):=⟨fun {W v lo hi} la lc l1 l2 h1 h2=>by
  have:=specApplyAll la lc L l1 l2 1 h1 qip h2 HLF.1.1 (by have:=HLF.1.2;omega)
  rw [hT5,<-hln] at this
  exact this⟩
 unfold qdw at HAA
 rw [hT5] at HP
 rw [<-hln] at HRL
 have HLN:=Sh.mk hln
 clear hT5 hat hln
 have x0:=(H0.1.1.bx 1 rfl 0 _ rfl).1
 go_upto_region 4 with (go_at_call 41;refine (HDK.1 _ H0.1.1.bel).mono ?_;rintro e w1 ⟨rfl,hb⟩;replace H0:=Sh.mk (And.intro (H0.1.1.below hb) (And.intro (qdl H0.1.2.1 hb) (Nat.lt_of_lt_of_le H0.1.2.2 hb.size)));clear hb x0)
 have x0:=(H0.1.1.bx 1 rfl 0 _ rfl).1
 go_upto_region 6 with (first
  | (go_at_call 42;refine (HFL.1 _ H0.1.1.bel).mono ?_;rintro e w2 ⟨rfl,hb⟩;replace H0:=Sh.mk (And.intro (H0.1.1.below hb) (And.intro (qdl H0.1.2.1 hb) (Nat.lt_of_lt_of_le H0.1.2.2 hb.size)));clear hb x0)
  | (go_at_call 43;refine (HRL.1 _).mono ?_;rintro e w3 ⟨v3,rfl,ho3,hb⟩;obtain ⟨la,lc,rfl⟩:=qih ho3;replace H0:=Sh.mk (And.intro (H0.1.1.below hb) (And.intro (qdl H0.1.2.1 hb) (Nat.lt_of_lt_of_le H0.1.2.2 hb.size)));have HR:=Sh.mk (qfm ho3 (fun h0 e0=>by rw [qpf,<-HLN.1,e0] at h0;omega));clear hb ho3))
 go_upto_region 7 with (first
  | (go_at_call 14;refine (specTreeNew _).mono ?_;rintro e w4 ⟨v4,rfl,hA4,hb⟩;replace H0:=Sh.mk (And.intro (H0.1.1.below hb) (And.intro (qdl H0.1.2.1 hb) (Nat.lt_of_lt_of_le H0.1.2.2 hb.size)));replace HR:=Sh.mk (HR.1.below hb);have HA4:=Sh.mk hA4.see;clear hb hA4)
  | (go_at_call 13;refine (HAA.1 la lc _ _ HA4.1 HR.1).mono ?_;rintro e w5 ⟨v5,rfl,hA5,hb⟩;obtain ⟨c5,m5,d5,rfl⟩:=qen hA5;have HS5:=Sh.mk (H0.1.1.add (s:=trS (.agg #[.slice c5 m5 d5,.int .i64 T5.next]) T5 w4.heap.size w5.heap.size) hb hA5 (trS.loc _ _ _ _) (Nat.le_refl _) (Nat.le_refl _));have HOW:Sh (w5.ownsRow (w.heap.size+1+1) 37 4 (.slice (some ⟨w.heap.size+1+1,0,none⟩) 0 0) 0 []/\w.heap.size+1+1<w4.heap.size):=⟨qdl H0.1.2.1 hb,H0.1.2.2⟩;have hlo:=H0.1.1.bel.size;have HB45:=Sh.mk (And.intro H0.1.2.2 hb.size);clear hb hA5 HA4 HR H0))
 have hb6:Below w5.heap.size w5 (w5.alloc (.cells #[.slice c5 m5 d5,.int .i64 T5.next] 42)):=(Below.refl _ _).alloc (Nat.le_refl _) _
 refine qaa (fun W=>SL w W (rsL w5.heap.size c5 m5 d5 T5 w4.heap.size w.heap.size a n cap [.slice none 0 0,.int .i64 0])/\AC (w.heap.size+1+1) W (.slice (some ⟨w.heap.size+1+1,0,none⟩) 0 0) [] w4.heap.size (w5.heap.size+1)) ⟨HS5.1.new _ _,qdl HOW.1.1 hb6,fun q e=>.inl (by simp [Value.ownBlock] at e;have:=HOW.1.2;omega),by simp⟩ ?_
 rintro W6 ⟨hS6,hA6⟩
 have H6:=Sh.mk (And.intro hS6 hA6)
 clear hS6 hA6 hb6 HS5 HOW
 have x0:=(H6.1.1.bx 3 rfl 0 _ rfl).1
 go_upto_region 8 with (go_at_call 42;refine (HFN.1 _ H6.1.1.bel).mono ?_;rintro e w7 ⟨rfl,hb⟩;replace H6:=Sh.mk (And.intro (H6.1.1.below hb) (H6.1.2.below hb));clear hb x0)
 have hB9:Sh (w.heap.size+1+1<w4.heap.size/\w4.heap.size<=w5.heap.size):=HB45
 clear HB45 HDK HFL HFN HRL HLF HAA HLN
 obtain ⟨E,hE⟩:∃ E,E=s.extract 0 at0:=⟨_,rfl⟩
 rw [<-hE] at HP HCU
 clear hE
 have hcu:=HCU.1
 cases has with
 | false =>
  by_cases hlt:at0<s.size
  ·have h1':(at0:Int)<(s.size:Int):=by omega
   simp only [Bool.false_eq_true,if_false,if_pos hlt] at HP
   clear hlt
   go_upto_region 12 with (at_builtin;refine wpList_append_own_at _ rfl _ _ 29 rfl (w.heap.size+1+1) 37 i0 _ 4 56 Tryz.underlying29 hin hz0 hz1 hz2 rfl (by decide) _ _ _ rfl (H6.1.2.own.alloc _) ⟨w7.heap.size,0,none⟩ 3 3 [.int .i64 1,.string ⟨#[108,111,103,43]⟩,.string E,.string ⟨#[]⟩,.int .i64 2,.string ⟨#[108,111,103,43]⟩,.string ⟨#[]⟩,.string ⟨#[]⟩,.int .i64 3,.string ⟨#[108,111,103,43]⟩,.string ⟨#[]⟩,.string ⟨#[108,111,103]⟩] rfl rfl (World.news_of_block (cs:=#[.int .i64 1,.string ⟨#[108,111,103,43]⟩,.string E,.string ⟨#[]⟩,.int .i64 2,.string ⟨#[108,111,103,43]⟩,.string ⟨#[]⟩,.string ⟨#[]⟩,.int .i64 3,.string ⟨#[108,111,103,43]⟩,.string ⟨#[]⟩,.string ⟨#[108,111,103]⟩]) (t:=37) (fr:=(0,0)) (heap_alloc_new w7 _)) (by simp [Value.oneCell']) (by simp [maxLen]) (by simp) (by have:=H6.1.2.siz;have:=hB9.1;simp;omega) ?_)
   intro v8 w8 ho hg _ ha
   have hb:Below w7.heap.size w7 (w7.alloc (.cells #[.int .i64 1,.string ⟨#[108,111,103,43]⟩,.string E,.string ⟨#[]⟩,.int .i64 2,.string ⟨#[108,111,103,43]⟩,.string ⟨#[]⟩,.string ⟨#[]⟩,.int .i64 3,.string ⟨#[108,111,103,43]⟩,.string ⟨#[]⟩,.string ⟨#[108,111,103]⟩] 37)):=(Below.refl _ _).alloc (Nat.le_refl _) _
   have H8:Sh (SL w w8 (rsL w5.heap.size c5 m5 d5 T5 w4.heap.size w.heap.size a n cap [.slice none 0 0,.int .i64 0])/\AC (w.heap.size+1+1) w8 v8 ([]++newA E) w4.heap.size (w5.heap.size+1)):=⟨(H6.1.1.below hb).grown hg (fun q e=>H6.1.2.ok9 hB9.1.2 e),H6.1.2.more hb ho rfl hg (by simpa using ha)⟩
   clear ho hg ha hb
   have q0:=(H8.1.1.bx 0 rfl 0 _ rfl).1
   have q1:=(H8.1.1.bx 0 rfl 1 _ rfl).1
   obtain ⟨y0,y0'⟩:=H8.1.1.bx 2 rfl 0 _ rfl
   obtain ⟨y1,y1'⟩:=H8.1.1.bx 2 rfl 1 _ rfl
   go_wp2_with fail
   have hS:=(H8.1.1.put 2 rfl 0 (.slice c5 m5 d5) (by simp)).put 2 rfl 1 (.int .i64 T5.next) (by simp)
   have hO:=(H8.1.2.set (w.heap.size+1) 0 (.slice c5 m5 d5) (by omega)).set (w.heap.size+1) 1 (.int .i64 T5.next) (by omega)
   refine qac (fun W=>SL w W (rsL w5.heap.size c5 m5 d5 T5 w4.heap.size w.heap.size a n cap [.slice c5 m5 d5,.int .i64 T5.next])/\AC (w.heap.size+1+1) W v8 ([]++newA E) w4.heap.size (w5.heap.size+1)) ⟨hS,hO⟩ ?_
   rintro W9 ⟨h9,o9⟩
   have r0:=(h9.bx 2 rfl 0 _ rfl).1
   have r1:=(h9.bx 2 rfl 1 _ rfl).1
   refine bodyPost_ret (v:=.tuple #[.agg #[.slice c5 m5 d5,.int .i64 T5.next],.int .i64 g5,v8,.bool true]) (by simp [results,Tryz.results12,go_sem,r0,r1]) rfl ((HP.1 _ _).2 ?_)
   exact RcvPost.mk (h9.at 1 rfl) o9 (by omega) hlo (by omega) (by have:=o9.siz;have:=hB9.1;omega) h9.bel
  ·have h1':¬ (at0:Int)<(s.size:Int):=by omega
   simp only [Bool.false_eq_true,if_false,if_neg hlt] at HP
   clear hlt
   go_upto_region 12 with fail
   have q0:=(H6.1.1.bx 0 rfl 0 _ rfl).1
   have q1:=(H6.1.1.bx 0 rfl 1 _ rfl).1
   obtain ⟨y0,y0'⟩:=H6.1.1.bx 2 rfl 0 _ rfl
   obtain ⟨y1,y1'⟩:=H6.1.1.bx 2 rfl 1 _ rfl
   go_wp2_with fail
   have hS:=(H6.1.1.put 2 rfl 0 (.slice c5 m5 d5) (by simp)).put 2 rfl 1 (.int .i64 T5.next) (by simp)
   have hO:=(H6.1.2.set (w.heap.size+1) 0 (.slice c5 m5 d5) (by omega)).set (w.heap.size+1) 1 (.int .i64 T5.next) (by omega)
   refine qac (fun W=>SL w W (rsL w5.heap.size c5 m5 d5 T5 w4.heap.size w.heap.size a n cap [.slice c5 m5 d5,.int .i64 T5.next])/\AC (w.heap.size+1+1) W (.slice (some ⟨w.heap.size+1+1,0,none⟩) 0 0) [] w4.heap.size (w5.heap.size+1)) ⟨hS,hO⟩ ?_
   rintro W9 ⟨h9,o9⟩
   have r0:=(h9.bx 2 rfl 0 _ rfl).1
   have r1:=(h9.bx 2 rfl 1 _ rfl).1
   refine bodyPost_ret (v:=.tuple #[.agg #[.slice c5 m5 d5,.int .i64 T5.next],.int .i64 g5,(.slice (some ⟨w.heap.size+1+1,0,none⟩) 0 0),.bool true]) (by simp [results,Tryz.results12,go_sem,r0,r1]) rfl ((HP.1 _ _).2 ?_)
   exact RcvPost.mk (h9.at 1 rfl) o9 (by omega) hlo (by omega) (by have:=o9.siz;have:=hB9.1;omega) h9.bel
 | true =>
  go_upto_region 10 with (at_builtin;refine wpList_append_own_at _ rfl _ _ 29 rfl (w.heap.size+1+1) 37 i0 _ 4 56 Tryz.underlying29 hin hz0 hz1 hz2 rfl (by decide) _ _ _ rfl (H6.1.2.own.alloc _) ⟨w7.heap.size,0,none⟩ 1 1 [.int .i64 4,.string ⟨#[108,111,103,43]⟩,.string ⟨#[]⟩,.string ⟨#[]⟩] rfl rfl (World.news_of_block (cs:=#[.int .i64 4,.string ⟨#[108,111,103,43]⟩,.string ⟨#[]⟩,.string ⟨#[]⟩]) (t:=37) (fr:=(0,0)) (heap_alloc_new w7 _)) (by simp [Value.oneCell']) (by simp [maxLen]) (by simp) (by have:=H6.1.2.siz;have:=hB9.1;simp;omega) ?_)
  intro v8 w8 ho hg _ ha
  have hb:Below w7.heap.size w7 (w7.alloc (.cells #[.int .i64 4,.string ⟨#[108,111,103,43]⟩,.string ⟨#[]⟩,.string ⟨#[]⟩] 37)):=(Below.refl _ _).alloc (Nat.le_refl _) _
  have H8:Sh (SL w w8 (rsL w5.heap.size c5 m5 d5 T5 w4.heap.size w.heap.size a n cap [.slice none 0 0,.int .i64 0])/\AC (w.heap.size+1+1) w8 v8 ([]++dropA) w4.heap.size (w5.heap.size+1)):=⟨(H6.1.1.below hb).grown hg (fun q e=>H6.1.2.ok9 hB9.1.2 e),H6.1.2.more hb ho rfl hg (by simpa using ha)⟩
  clear ho hg ha hb
  by_cases hlt:at0<s.size
  ·have h1':(at0:Int)<(s.size:Int):=by omega
   simp only [if_true,if_pos hlt] at HP
   clear hlt
   go_upto_region 12 with (at_builtin;refine wpList_append_own_at _ rfl _ _ 29 rfl (w.heap.size+1+1) 37 i0 _ 4 56 Tryz.underlying29 hin hz0 hz1 hz2 rfl (by decide) _ _ _ rfl (H8.1.2.own.alloc _) ⟨w8.heap.size,0,none⟩ 3 3 [.int .i64 1,.string ⟨#[108,111,103,43]⟩,.string E,.string ⟨#[]⟩,.int .i64 2,.string ⟨#[108,111,103,43]⟩,.string ⟨#[]⟩,.string ⟨#[]⟩,.int .i64 3,.string ⟨#[108,111,103,43]⟩,.string ⟨#[]⟩,.string ⟨#[108,111,103]⟩] rfl rfl (World.news_of_block (cs:=#[.int .i64 1,.string ⟨#[108,111,103,43]⟩,.string E,.string ⟨#[]⟩,.int .i64 2,.string ⟨#[108,111,103,43]⟩,.string ⟨#[]⟩,.string ⟨#[]⟩,.int .i64 3,.string ⟨#[108,111,103,43]⟩,.string ⟨#[]⟩,.string ⟨#[108,111,103]⟩]) (t:=37) (fr:=(0,0)) (heap_alloc_new w8 _)) (by simp [Value.oneCell']) (by simp [maxLen,dropA]) (by simp [dropA]) (by have:=H8.1.2.siz;have:=hB9.1;simp;omega) ?_)
   intro v9 w9 ho hg _ ha
   have hb:Below w8.heap.size w8 (w8.alloc (.cells #[.int .i64 1,.string ⟨#[108,111,103,43]⟩,.string E,.string ⟨#[]⟩,.int .i64 2,.string ⟨#[108,111,103,43]⟩,.string ⟨#[]⟩,.string ⟨#[]⟩,.int .i64 3,.string ⟨#[108,111,103,43]⟩,.string ⟨#[]⟩,.string ⟨#[108,111,103]⟩] 37)):=(Below.refl _ _).alloc (Nat.le_refl _) _
   have H9:Sh (SL w w9 (rsL w5.heap.size c5 m5 d5 T5 w4.heap.size w.heap.size a n cap [.slice none 0 0,.int .i64 0])/\AC (w.heap.size+1+1) w9 v9 (([]++dropA)++newA E) w4.heap.size (w5.heap.size+1)):=⟨(H8.1.1.below hb).grown hg (fun q e=>H8.1.2.ok9 hB9.1.2 e),H8.1.2.more hb ho rfl hg (by simpa using ha)⟩
   clear ho hg ha hb
   have q0:=(H9.1.1.bx 0 rfl 0 _ rfl).1
   have q1:=(H9.1.1.bx 0 rfl 1 _ rfl).1
   obtain ⟨y0,y0'⟩:=H9.1.1.bx 2 rfl 0 _ rfl
   obtain ⟨y1,y1'⟩:=H9.1.1.bx 2 rfl 1 _ rfl
   go_wp2_with fail
   have hS:=(H9.1.1.put 2 rfl 0 (.slice c5 m5 d5) (by simp)).put 2 rfl 1 (.int .i64 T5.next) (by simp)
   have hO:=(H9.1.2.set (w.heap.size+1) 0 (.slice c5 m5 d5) (by omega)).set (w.heap.size+1) 1 (.int .i64 T5.next) (by omega)
   refine qac (fun W=>SL w W (rsL w5.heap.size c5 m5 d5 T5 w4.heap.size w.heap.size a n cap [.slice c5 m5 d5,.int .i64 T5.next])/\AC (w.heap.size+1+1) W v9 (([]++dropA)++newA E) w4.heap.size (w5.heap.size+1)) ⟨hS,hO⟩ ?_
   rintro W9 ⟨h9,o9⟩
   have r0:=(h9.bx 2 rfl 0 _ rfl).1
   have r1:=(h9.bx 2 rfl 1 _ rfl).1
   refine bodyPost_ret (v:=.tuple #[.agg #[.slice c5 m5 d5,.int .i64 T5.next],.int .i64 g5,v9,.bool true]) (by simp [results,Tryz.results12,go_sem,r0,r1]) rfl ((HP.1 _ _).2 ?_)
   exact RcvPost.mk (h9.at 1 rfl) o9 (by omega) hlo (by omega) (by have:=o9.siz;have:=hB9.1;omega) h9.bel
  ·have h1':¬ (at0:Int)<(s.size:Int):=by omega
   simp only [if_true,if_neg hlt] at HP
   clear hlt
   go_upto_region 12 with fail
   have q0:=(H8.1.1.bx 0 rfl 0 _ rfl).1
   have q1:=(H8.1.1.bx 0 rfl 1 _ rfl).1
   obtain ⟨y0,y0'⟩:=H8.1.1.bx 2 rfl 0 _ rfl
   obtain ⟨y1,y1'⟩:=H8.1.1.bx 2 rfl 1 _ rfl
   go_wp2_with fail
   have hS:=(H8.1.1.put 2 rfl 0 (.slice c5 m5 d5) (by simp)).put 2 rfl 1 (.int .i64 T5.next) (by simp)
   have hO:=(H8.1.2.set (w.heap.size+1) 0 (.slice c5 m5 d5) (by omega)).set (w.heap.size+1) 1 (.int .i64 T5.next) (by omega)
   refine qac (fun W=>SL w W (rsL w5.heap.size c5 m5 d5 T5 w4.heap.size w.heap.size a n cap [.slice c5 m5 d5,.int .i64 T5.next])/\AC (w.heap.size+1+1) W v8 ([]++dropA) w4.heap.size (w5.heap.size+1)) ⟨hS,hO⟩ ?_
   rintro W9 ⟨h9,o9⟩
   have r0:=(h9.bx 2 rfl 0 _ rfl).1
   have r1:=(h9.bx 2 rfl 1 _ rfl).1
   refine bodyPost_ret (v:=.tuple #[.agg #[.slice c5 m5 d5,.int .i64 T5.next],.int .i64 g5,v8,.bool true]) (by simp [results,Tryz.results12,go_sem,r0,r1]) rfl ((HP.1 _ _).2 ?_)
   exact RcvPost.mk (h9.at 1 rfl) o9 (by omega) hlo (by omega) (by have:=o9.siz;have:=hB9.1;omega) h9.bel
end Go.Proofs.YtoglebfiobofoaaGreatDoor
