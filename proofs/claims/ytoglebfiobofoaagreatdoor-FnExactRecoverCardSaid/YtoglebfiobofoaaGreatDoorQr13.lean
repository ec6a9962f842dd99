/- Texts of ours, laid one behind the other: RecI, ChB, ChC, ChD, ChG. -/
import Derived.Test.YtoglebfiobofoaaGreatDoorQrRecS
import Derived.Test.YtoglebfiobofoaaGreatDoorQr10
import Derived.Test.YtoglebfiobofoaaGreatDoorQr5
import Derived.Test.YtoglebfiobofoaaGreatDoorQr11
import Derived.Test.YtoglebfiobofoaaGreatDoorQrStF
import Derived.Test.YtoglebfiobofoaaGreatDoorQr9
import Derived.Test.YtoglebfiobofoaaGreatDoorQr4
import Derived.Test.YtoglebfiobofoaaGreatDoorQr12
/- RecI: . -/
namespace Go.Proofs.YtoglebfiobofoaaGreatDoor
set_option maxRecDepth 100000
set_option maxHeartbeats 16000000
open Go.RowKit
attribute [local go_sem ↓] Go.wp_at_zero Go.wp_at_succ
variable {nx:Int} {L:List (Nat × List Value)} {rs:List NR} {r:NR} {B cap g k n tb:Nat} {a:Option Addr} {T:TM} {W w0:World}
noncomputable def rdF (fs:List FM):Option Int:=if dOkB fs then (if logAt (txtOf fs nmLog)<(txtOf fs nmLog).size then some 2 else none) else some 1
noncomputable def rdE (fs:List FM):List EM:=if dOkB fs then logE (txtOf fs nmLog) else []
noncomputable def rdT (fs:List FM):ByteArray:=if dOkB fs then (txtOf fs nmLog).extract 0 (logAt (txtOf fs nmLog)) else ⟨#[]⟩
def qpm (fs:List FM) (w:World) (e:Ending) (w':World):Prop:=
 ∃ v,e = .returned (.tuple #[.agg #[v,.string (rdT fs)],fltV (rdF fs)])/\w'.ownsRow w.heap.size 33 5 v (rdE fs).length (ecs (rdE fs))/\Below w.heap.size w w'
theorem fault_is (s:ByteArray):qjk s=fltV (if logAt s<s.size then some 2 else none):=by unfold qjk;split <;> rfl
theorem implReadDisk (a:Option Addr) (fs:List FM) (cap:Nat) (w:World) (hr:FRow w a fs) (hf:FFit fs) (hl:fs.length<=1048576) (hz:fsum fs<=1048576) (ht:SumTab w) :
  Calls Tryz.prog 35 #[.agg #[.slice a fs.length cap]] w fun e w'=>qpm fs w e w':=by
 have HDK:=Sh.mk (fun (W:World) (hb:Below w.heap.size w W)=>implDiskOk a fs cap W (hr.stays hb) hf hl)
 have HFL:=Sh.mk (fun (W:World) (hb:Below w.heap.size w W)=>qla a fs cap nmLog W (hr.stays hb) hf hl hz (by decide))
 rw [qmn] at HFL
 have HRR:=Sh.mk (fun (W:World) (hb:Below w.heap.size w W)=>implReadRecords (txtOf fs nmLog) W (ht.stays hb))
 unfold qsc at HRR
 rw [fault_is] at HRR
 have HP:Sh (∀ e w',qpm fs w e w'↔∃ v,e = .returned (.tuple #[.agg #[v,.string (rdT fs)],fltV (rdF fs)])/\w'.ownsRow w.heap.size 33 5 v (rdE fs).length (ecs (rdE fs))/\Below w.heap.size w w'):=⟨fun _ _=>Iff.rfl⟩
 unfold rdT rdF rdE at HP
 generalize txtOf fs nmLog=s at *
 generalize s.extract 0 (logAt s)=E at *
 generalize (if logAt s<s.size then some (2:Int) else none)=o at *
 generalize logE s=L at *
 generalize isAt fs nmLog=h1 at *
 generalize dOkB fs=dk at *
 obtain ⟨n,hn⟩:∃ n,n=fs.length:=⟨_,rfl⟩
 rw [<-hn] at HDK HFL ⊢
 unfold nmLog at HFL
 clear hr hf hl hz ht hn
 have HS0:=Sh.mk (((SL.start w).new #[.slice a n cap] 28).new #[.slice none 0 0,.string ⟨#[]⟩] 72)
 simp only [World.size_alloc] at HS0
 go_enter Tryz.func35,Tryz.ntmps35
 go_upto_region 1 with fail
 refine qaa (fun W=>SL w W [bxS (w.heap.size+1) [.slice none 0 0,.string ⟨#[]⟩],bxS w.heap.size [.slice a n cap]]) HS0.1 ?_
 intro W0 hS0
 have H0:=Sh.mk hS0
 clear hS0 HS0
 have x0:=(H0.1.bx 1 rfl 0 _ rfl).1
 cases dk with
 | false =>
  simp only [Bool.false_eq_true,if_false] at HP
  go_wp2_with (go_at_call 77;refine (HDK.1 _ H0.1.bel).mono ?_;rintro e w1 ⟨rfl,hb⟩;replace H0:=Sh.mk (H0.1.below hb);clear hb x0;obtain ⟨y0,y0'⟩:=H0.1.bx 0 rfl 0 _ rfl;obtain ⟨y1,y1'⟩:=H0.1.bx 0 rfl 1 _ rfl)
  have hS:=(H0.1.put 0 rfl 0 (.slice none 0 0) (by simp)).put 0 rfl 1 (.string ⟨#[]⟩) (by simp)
  refine qac (fun W=>SL w W [bxS (w.heap.size+1) [.slice none 0 0,.string ⟨#[]⟩],bxS w.heap.size [.slice a n cap]]) hS ?_
  intro W9 h9
  have r0:=(h9.bx 0 rfl 0 _ rfl).1
  have r1:=(h9.bx 0 rfl 1 _ rfl).1
  refine bodyPost_ret (v:=.tuple #[.agg #[.slice none 0 0,.string ⟨#[]⟩],.iface 124 (.agg #[.int .i64 1])]) (by simp [results,Tryz.results35,go_sem,r0,r1]) rfl ((HP.1 _ _).2 ?_)
  exact ⟨.slice none 0 0,rfl,World.ownsRow_nil _ _ _ _,h9.bel⟩
 | true =>
  simp only [if_true] at HP
  go_upto_region 3 with (go_at_call 77;refine (HDK.1 _ H0.1.bel).mono ?_;rintro e w1 ⟨rfl,hb⟩;replace H0:=Sh.mk (H0.1.below hb);clear hb x0)
  have x0:=(H0.1.bx 1 rfl 0 _ rfl).1
  go_wp2_with (first
   | (go_at_call 39;refine (HFL.1 _ H0.1.bel).mono ?_;rintro e w2 ⟨rfl,hb⟩;replace H0:=Sh.mk (H0.1.below hb);clear hb x0)
   | (go_at_call 34;refine (HRR.1 _ H0.1.bel).mono ?_;rintro e w3 ⟨v3,rfl,ho3,hb⟩;obtain ⟨la,lc,rfl⟩:=qih ho3;have HO:=Sh.mk ho3;have hs2:=H0.1.bel.size;have hs3:=(H0.1.is _ (List.mem_cons_self ..)).2.2.2;replace H0:=Sh.mk (H0.1.below hb);clear hb ho3;obtain ⟨y0,y0'⟩:=H0.1.bx 0 rfl 0 _ rfl;obtain ⟨y1,y1'⟩:=H0.1.bx 0 rfl 1 _ rfl))
  have hS:=(H0.1.put 0 rfl 0 (.slice la L.length lc) (by simp)).put 0 rfl 1 (.string E) (by simp)
  have hne:(Value.slice la L.length lc).ownBlock ≠ some (w.heap.size+1):=fun e=>by have:=(HO.1.lt _ e).1;omega
  have hO:=(HO.1.kept (qak _ (w.heap.size+1) 0 (.slice la L.length lc)) (.inr hne)).kept (qak _ (w.heap.size+1) 1 (.string E)) (.inr hne)
  refine qac (fun W=>SL w W [bxS (w.heap.size+1) [.slice la L.length lc,.string E],bxS w.heap.size [.slice a n cap]]/\W.ownsRow w2.heap.size 33 5 (.slice la L.length lc) L.length (ecs L)) ⟨hS,hO⟩ ?_
  rintro W9 ⟨h9,o9⟩
  have r0:=(h9.bx 0 rfl 0 _ rfl).1
  have r1:=(h9.bx 0 rfl 1 _ rfl).1
  refine bodyPost_ret (v:=.tuple #[.agg #[.slice la L.length lc,.string E],fltV o]) (by simp [results,Tryz.results35,go_sem,r0,r1]) rfl ((HP.1 _ _).2 ?_)
  exact ⟨_,rfl,qsb o9 hs2,h9.bel⟩
theorem SS.see (h:SS w0 W L B a n cap rs) (hok:qae T=true) (hr:nds rs=T.nodes) (hx:nx=T.next):SeeT W a n cap nx T:=by
 refine ⟨hok,B,W.heap.size,?_⟩
 have:=(h.nb.ans (w:=w0) (nx:=nx) hr h.lo).see
 obtain ⟨nodes,next⟩:=T
 dsimp only at hr hx
 subst hx
 have h9:=h.nb.fin (nx:=nx)
 rw [hr] at h9
 exact h9.see
theorem chMove (h:SS w0 W ((tb,[.slice (some ⟨g,0,none⟩) n cap,.int .i64 nx])::L) B (some ⟨g,0,none⟩) n cap rs) (hk:rs[k]?=some r) (hok:qae T=true) (hr:nds rs=T.nodes) (hx:nx=T.next) (path dest:ByteArray) (gr:Int) :
  Calls Tryz.prog 239 #[.agg #[.string path,.string dest,.string (qab dest).1,.string (qab dest).2.1],.pointer (some ⟨tb,0,none⟩),.pointer (some ⟨g,k*9,none⟩),.int .i64 gr] W fun e w'=>e = .returned (.tuple #[])/\SS w0 w' ((tb,[.slice (some ⟨g,0,none⟩) n cap,.int .i64 nx])::L) B (some ⟨g,0,none⟩) n cap (rs.set k ⟨{ r.nd with parent:=upX T dest,name:=(qab dest).2.1 },r.loc,r.cap⟩):=by
 have hsm:=qbb dest
 have HF:=Sh.mk (fun W' (hb:Below W.heap.size W W')=>((h.see hok hr hx).below hb).find (qab dest).1 (by omega))
 have hu:findX T (qab dest).1=upX T dest:=rfl
 simp only [hu] at HF
 generalize (qab dest).1=up at HF ⊢
 generalize (qab dest).2.1=nm
 generalize upX T dest=u at HF ⊢
 have HK:=Sh.mk hk
 have HS:=Sh.mk h
 clear h hk hok hr hx hu hsm
 go_enter Tryz.func239,Tryz.ntmps239
 go_upto_region 1 with fail
 obtain ⟨rb,hrb⟩:∃ rb,rb=W.heap.size:=⟨_,rfl⟩
 refine qaa (fun V=>SS w0 V ((rb,[.string path,.string dest,.string up,.string nm])::(tb,[.slice (some ⟨g,0,none⟩) n cap,.int .i64 nx])::L) B (some ⟨g,0,none⟩) n cap rs/\Below W.heap.size W V) ⟨by rw [hrb];exact HS.1.new #[.string path,.string dest,.string up,.string nm] 225,(Below.refl _ _).alloc (Nat.le_refl _) _⟩ ?_
 rintro W1 ⟨hS1,hb1⟩
 have HS1:=Sh.mk hS1
 have HB1:=Sh.mk hb1
 rw [<-hrb]
 clear hS1 hb1 hrb HS
 have ne1:¬ (g=tb):=(HS1.1.ap (tb,[.slice (some ⟨g,0,none⟩) n cap,.int .i64 nx]) (List.mem_cons_of_mem _ (List.mem_cons_self ..))).1 ⟨g,0,none⟩ rfl
 have ne2:¬ (tb=g):=fun e=>ne1 e.symm
 have ne3:¬ (g=rb):=(HS1.1.ap (rb,[.string path,.string dest,.string up,.string nm]) (List.mem_cons_self ..)).1 ⟨g,0,none⟩ rfl
 have ne4:¬ (rb=g):=fun e=>ne3 e.symm
 have n0:=((HS1.1.mb.at 1 rfl).1.2 0 _ rfl).1
 have n1:=((HS1.1.mb.at 1 rfl).1.2 1 _ rfl).1
 have x2:=((HS1.1.mb.at 0 rfl).1.2 2 _ rfl).1
 have x3:=((HS1.1.mb.at 0 rfl).1.2 3 _ rfl).1
 have lt1:=(HS1.1.mb.at 1 rfl).1.1
 have lt0:=(HS1.1.mb.at 0 rfl).1.1
 go_region_held3 (fun w'=>w'.cell? ⟨tb,0,none⟩=some (.slice (some ⟨g,0,none⟩) n cap)/\w'.cell? ⟨tb,1,none⟩=some (.int .i64 nx)/\w'.cell? ⟨rb,2,none⟩=some (.string up)/\w'.cell? ⟨rb,3,none⟩=some (.string nm)) (first | go_keep | (rw [hw8.cell (p:=⟨tb,0,none⟩) lt1,hw8.cell (p:=⟨tb,1,none⟩) lt1,hw8.cell (p:=⟨rb,2,none⟩) lt0,hw8.cell (p:=⟨rb,3,none⟩) lt0];refine ⟨?_,?_,?_,?_⟩ <;> assumption)) ((go_at_call 121;refine (HF.1 _ (HB1.1.drew)).mono ?_;rintro e w8 ⟨rfl,hw8⟩;have hb9:=Sh.mk (Below.trans (Below.drew (Below.refl _ _)) hw8:Below W1.heap.size W1 w8);have hm1:=Sh.mk ((HS1.1.below hb9.1).cell HK.1 1 _ rfl);have hm2:=Sh.mk ((HS1.1.below hb9.1).cell HK.1 2 _ rfl);obtain ⟨m1,mf1⟩:=hm1.1;obtain ⟨m2,mf2⟩:=hm2.1))
 all_goals
  go_wp2_with fail
  refine qac (fun w9=>SS w0 w9 ((tb,[.slice (some ⟨g,0,none⟩) n cap,.int .i64 nx])::L) B (some ⟨g,0,none⟩) n cap (rs.set k ⟨{ r.nd with parent:=u,name:=nm },r.loc,r.cap⟩)) ?_ ?_
  ·have h8:=HS1.1.below hb9.1
   have h9:=h8.put HK.1 1 (by omega) (.int .i64 u) ⟨{ r.nd with parent:=u },r.loc,r.cap⟩ rfl rfl rfl rfl
   have hk2:(rs.set k ⟨{ r.nd with parent:=u },r.loc,r.cap⟩)[k]?=some ⟨{ r.nd with parent:=u },r.loc,r.cap⟩:=by
    obtain ⟨hk',-⟩:=List.getElem?_eq_some_iff.1 HK.1
    rw [List.getElem?_set_self hk']
   have h10:=h9.put hk2 2 (by omega) (.string nm) ⟨{ r.nd with parent:=u,name:=nm },r.loc,r.cap⟩ rfl rfl rfl rfl
   rw [List.set_set] at h10
   exact h10.less
  ·intro w9 h9
   refine bodyPost_end (v:=.tuple #[]) (by simp [results,Tryz.results239,go_sem]) rfl ⟨rfl,h9⟩
theorem SS.snoc {w0 W w5:World} {B g n cap gg cap1:Nat} {o:Obj} (h:SS w0 W L B (some ⟨g,0,none⟩) n cap rs) (hp:r.nd.pieces=[]) (hl:r.loc=none) (hc:r.cap=0)
  (ho:w5.ownsRow B 87 9 (.slice (some ⟨gg,0,none⟩) (n+1) cap1) (n+1) (ncs rs++qaj r)) (hg:((W.alloc o).drew).grownBy w5 (Value.slice (some ⟨g,0,none⟩) n cap).ownBlock) (hat:(Value.slice (some ⟨g,0,none⟩) n cap).ownBlock=some gg\/gg=W.heap.size+1) :
  SS w0 w5 L B (some ⟨gg,0,none⟩) (n+1) cap1 (rs++[r]):=by
 have hba:Below W.heap.size W (W.alloc o).drew:=((Below.refl _ _).alloc (Nat.le_refl _) _).drew
 have hgB:B<=g:=(h.nb.own.lt g rfl).1
 have hW:W.heap.size<=(W.alloc o).drew.heap.size:=hba.size
 refine ⟨(h.mb.below hba).far hg (fun p hp' e=>(h.ap p hp').1 ⟨g,0,none⟩ rfl (by cases e;rfl)) (fun q e=>by cases e;show w0.heap.size<=g;have:=h.lo;omega),?_,by rw [List.length_append,List.length_singleton,h.len],fun p hp'=>⟨fun q e=>?_,fun s hs q e=>?_⟩,h.lo⟩
 ·refine h.nb.snoc (v':=.slice (some ⟨gg,0,none⟩) (n+1) cap1) hba ?_ (fun hne=>absurd hl hne) (by rw [h.len];exact ho) hg
  rw [hp,hl,hc]
  exact World.ownsRow_nil _ B 138 2
 ·cases e
  show gg ≠ p.1
  rcases hat with e | e
  ·have:g=gg:=by simpa [Value.ownBlock] using e
   rw [<-this]
   exact (h.ap p hp').1 ⟨g,0,none⟩ rfl
  ·have:=(h.mb.box p hp').1.1
   omega
 ·rcases List.mem_append.1 hs with m | m
  ·exact (h.ap p hp').2 s m q e
  ·rw [List.mem_singleton.1 m,hl] at e
   cases e
theorem qil (h:SS w0 W ((tb,[.slice (some ⟨g,0,none⟩) n cap,.int .i64 nx])::L) B (some ⟨g,0,none⟩) n cap rs) (hn:n<=1000) (hnx:0<=nx/\nx<=1000000) (parent:Int) (name:ByteArray) (dir:Bool) (schema quota ln writer:Int) :
  Calls Tryz.prog 236 #[.pointer (some ⟨tb,0,none⟩),.agg #[.int .i64 0,.int .i64 parent,.string name,.bool dir,.int .i64 schema,.int .i64 quota,.int .i64 ln,.slice none 0 0,.int .i64 writer]] W fun e w'=>e = .returned (.tuple #[])/\∃ gg cap1,SS w0 w' ((tb,[.slice (some ⟨gg,0,none⟩) (n+1) cap1,.int .i64 (nx+1)])::L) B (some ⟨gg,0,none⟩) (n+1) cap1 (rs++[(⟨⟨nx,parent,name,dir,schema,quota,ln,[],writer⟩,none,0⟩:NR)]):=by
 obtain ⟨i0,hin,hz0,hz1,hz2⟩:=info_parts qin
 have HS:=Sh.mk h
 clear h
 go_enter Tryz.func236,Tryz.ntmps236
 go_upto_region 1 with fail
 obtain ⟨xb,hxb⟩:∃ xb,xb=W.heap.size:=⟨_,rfl⟩
 refine qaa (fun V=>SS w0 V ((xb,[.int .i64 0,.int .i64 parent,.string name,.bool dir,.int .i64 schema,.int .i64 quota,.int .i64 ln,.slice none 0 0,.int .i64 writer])::(tb,[.slice (some ⟨g,0,none⟩) n cap,.int .i64 nx])::L) B (some ⟨g,0,none⟩) n cap rs) (by rw [hxb];exact HS.1.new #[.int .i64 0,.int .i64 parent,.string name,.bool dir,.int .i64 schema,.int .i64 quota,.int .i64 ln,.slice none 0 0,.int .i64 writer] 87) ?_
 intro W1 hS1
 have HS1:=Sh.mk hS1
 rw [<-hxb]
 clear hS1 hxb HS
 have n1:=((HS1.1.mb.at 1 rfl).1.2 1 _ rfl).1
 obtain ⟨y0,yf0⟩:=(HS1.1.mb.at 0 rfl).1.2 0 _ rfl
 go_upto_region 2 with fail
 refine qaa (fun V=>SS w0 V ((xb,[.int .i64 nx,.int .i64 parent,.string name,.bool dir,.int .i64 schema,.int .i64 quota,.int .i64 ln,.slice none 0 0,.int .i64 writer])::(tb,[.slice (some ⟨g,0,none⟩) n cap,.int .i64 nx])::L) B (some ⟨g,0,none⟩) n cap rs) (HS1.1.setBox 0 rfl 0 (.int .i64 nx) (by simp)) ?_
 intro W2 hS2
 have HS2:=Sh.mk hS2
 clear hS2 HS1 n1 y0 yf0
 have hrow:=HS2.1.nb.own
 rw [HS2.1.len] at hrow
 have ne1:¬ (g=tb):=(HS2.1.ap (tb,[.slice (some ⟨g,0,none⟩) n cap,.int .i64 nx]) (List.mem_cons_of_mem _ (List.mem_cons_self ..))).1 ⟨g,0,none⟩ rfl
 have ne2:¬ (tb=g):=fun e=>ne1 e.symm
 have ne3:¬ (tb=xb):=fun e=>(List.pairwise_cons.1 HS2.1.mb.dist).1 _ (List.mem_cons_self ..) e.symm
 have nb2:(Value.slice (some ⟨g,0,none⟩) n cap).ownBlock ≠ some tb:=fun e=>ne1 (by simpa [Value.ownBlock] using e)
 have n0:=((HS2.1.mb.at 1 rfl).1.2 0 _ rfl).1
 have y0:=((HS2.1.mb.at 0 rfl).1.2 0 _ rfl).1
 have y1:=((HS2.1.mb.at 0 rfl).1.2 1 _ rfl).1
 have y2:=((HS2.1.mb.at 0 rfl).1.2 2 _ rfl).1
 have y3:=((HS2.1.mb.at 0 rfl).1.2 3 _ rfl).1
 have y4:=((HS2.1.mb.at 0 rfl).1.2 4 _ rfl).1
 have y5:=((HS2.1.mb.at 0 rfl).1.2 5 _ rfl).1
 have y6:=((HS2.1.mb.at 0 rfl).1.2 6 _ rfl).1
 have y7:=((HS2.1.mb.at 0 rfl).1.2 7 _ rfl).1
 have y8:=((HS2.1.mb.at 0 rfl).1.2 8 _ rfl).1
 have lt1:=(HS2.1.mb.at 1 rfl).1.1
 have hBW:B<=W2.heap.size:=by have:=(hrow.lt g rfl);omega
 have hw9:IntKind.i64.wrap (nx+1)=nx+1:=IntWalk.i64_in _ ⟨by omega,by omega⟩
 go_region_law ((refine step_append_lies _ (by rfl) _ _ _ (by rfl) B 87 i0 _ 9 96 Tryz.underlying40 hin hz0 hz1 hz2 rfl (by omega) _ _ _ (by rfl) ((hrow.alloc _).drew) ⟨W2.heap.size,0,none⟩ 1 1 [.int .i64 nx,.int .i64 parent,.string name,.bool dir,.int .i64 schema,.int .i64 quota,.int .i64 ln,.slice none 0 0,.int .i64 writer] (by rfl) (by rfl) (World.news_of_block (cs:=#[.int .i64 nx,.int .i64 parent,.string name,.bool dir,.int .i64 schema,.int .i64 quota,.int .i64 ln,.slice none 0 0,.int .i64 writer]) (t:=87) (fr:=(0,0)) (heap_alloc_new W2 _)) (by simp [Value.oneCell']) (by omega) (by unfold maxLen;omega) (by omega) (by simp;omega) (W2.heap.size+1) (by simp) ?_;intro gg cap1 w5 hown1 hgrow hat hlt';have HS5:=Sh.mk (HS2.1.snoc (r:=⟨⟨nx,parent,name,dir,schema,quota,ln,[],writer⟩,none,0⟩) rfl rfl rfl hown1 hgrow hat);obtain ⟨vc1,vf1⟩:=(HS5.1.mb.at 1 rfl).1.2 0 _ rfl))
 all_goals
  go_upto_region 3 with fail
  refine qaa (fun V=>SS w0 V ((xb,[.int .i64 nx,.int .i64 parent,.string name,.bool dir,.int .i64 schema,.int .i64 quota,.int .i64 ln,.slice none 0 0,.int .i64 writer])::(tb,[.slice (some ⟨gg,0,none⟩) (n+1) cap1,.int .i64 nx])::L) B (some ⟨gg,0,none⟩) (n+1) cap1 (rs++[(⟨⟨nx,parent,name,dir,schema,quota,ln,[],writer⟩,none,0⟩:NR)])) (HS5.1.setBox 1 rfl 0 (.slice (some ⟨gg,0,none⟩) (n+1) cap1) (by simp)) ?_
  intro V6 hS6
  have HS6:=Sh.mk hS6
  clear hS6 hown1 hgrow hat hlt' vc1 vf1 HS5 n0 y0 y1 y2 y3 y4 y5 y6 y7 y8 hrow lt1 HS2
  obtain ⟨m1,mf1⟩:=(HS6.1.mb.at 1 rfl).1.2 1 _ rfl
  go_wp2_with fail
  refine qac (fun w9=>SS w0 w9 ((tb,[.slice (some ⟨gg,0,none⟩) (n+1) cap1,.int .i64 (nx+1)])::L) B (some ⟨gg,0,none⟩) (n+1) cap1 (rs++[(⟨⟨nx,parent,name,dir,schema,quota,ln,[],writer⟩,none,0⟩:NR)])) ((HS6.1.setBox 1 rfl 1 (.int .i64 (nx+1)) (by simp)).less) ?_
  intro w9 h9
  refine bodyPost_end (v:=.tuple #[]) (by simp [results,Tryz.results236,go_sem]) rfl ⟨rfl,gg,cap1,h9⟩
theorem chMake (h:SS w0 W ((tb,[.slice (some ⟨g,0,none⟩) n cap,.int .i64 nx])::L) B (some ⟨g,0,none⟩) n cap rs) (hk:rs[k]?=some r) (hn:n<=1000) (hnx:0<=nx/\nx<=1000000) (path:ByteArray) (gr:Int) :
  Calls Tryz.prog 235 #[.agg #[.string path,.string (qab path).1,.string (qab path).2.1],.pointer (some ⟨tb,0,none⟩),.pointer (some ⟨g,k*9,none⟩),.int .i64 gr] W fun e w'=>e = .returned (.tuple #[])/\∃ gg cap1,SS w0 w' ((tb,[.slice (some ⟨gg,0,none⟩) (n+1) cap1,.int .i64 (nx+1)])::L) B (some ⟨gg,0,none⟩) (n+1) cap1 (rs++[(⟨⟨nx,r.nd.id,(qab path).2.1,true,0,0,0,[],0⟩,none,0⟩:NR)]):=by
 generalize (qab path).1=up
 generalize (qab path).2.1=nm
 have c0:=(h.cell hk 0 _ rfl).1
 obtain ⟨pid,hpid⟩:∃ pid,pid=r.nd.id:=⟨_,rfl⟩
 have HS:=Sh.mk h
 have HC:Sh (∀ W',Below W.heap.size W W'->W'.cell? ⟨g,k*9,none⟩=some (.int .i64 pid)):=⟨fun W' hb=>by rw [hpid];exact (hb.cell (p:=⟨g,k*9,none⟩) (h.nb.row_lt ⟨g,0,none⟩ rfl)).trans c0⟩
 rw [<-hpid]
 clear h hk c0 hpid
 go_enter Tryz.func235,Tryz.ntmps235
 go_upto_region 1 with fail
 obtain ⟨rb,hrb⟩:∃ rb,rb=W.heap.size:=⟨_,rfl⟩
 refine qaa (fun V=>SS w0 V ((rb,[.string path,.string up,.string nm])::(tb,[.slice (some ⟨g,0,none⟩) n cap,.int .i64 nx])::L) B (some ⟨g,0,none⟩) n cap rs/\Below W.heap.size W V) ⟨by rw [hrb];exact HS.1.new #[.string path,.string up,.string nm] 221,(Below.refl _ _).alloc (Nat.le_refl _) _⟩ ?_
 rintro W1 ⟨hS1,hb1⟩
 have HS1:=Sh.mk hS1
 have HB1:=Sh.mk hb1
 rw [<-hrb]
 clear hS1 hb1 hrb HS
 have HLE:Sh (∀ x,Later W1.drew x->x.cell? ⟨g,k*9,none⟩=some (.int .i64 pid)/\x.cell? ⟨rb,2,none⟩=some (.string nm)/\x.cell? ⟨tb,0,none⟩=some (.slice (some ⟨g,0,none⟩) n cap)/\x.cell? ⟨tb,1,none⟩=some (.int .i64 nx)):=⟨fun x hx=>by
  have hb:Below W1.heap.size W1 x:=Below.trans (Below.drew (Below.refl _ _)) hx
  have M:=HS1.1.mb.below hb
  exact ⟨HC.1 x (HB1.1.trans (hb.mono HB1.1.size)),((M.at 0 rfl).1.2 2 _ rfl).1,((M.at 1 rfl).1.2 0 _ rfl).1,((M.at 1 rfl).1.2 1 _ rfl).1⟩⟩
 have HBX:Sh (∀ x,Later W1.drew x->Below W.heap.size W x):=⟨fun x hx=>HB1.1.trans ((Below.trans (Below.drew (Below.refl _ _)) hx:Below W1.heap.size W1 x).mono HB1.1.size)⟩
 refine qas 9 (by kernel_rfl) ?_
 refine wpK_v 0 rfl (fun x hx=>by obtain ⟨d0,d1,d2,d3⟩:=HLE.1 x hx;go_simp;try with_reducible rfl) ?_
 try simp only [Act.put,qA,qB,qC]
 refine wpK_v 1 rfl (fun x hx=>by obtain ⟨d0,d1,d2,d3⟩:=HLE.1 x hx;go_simp;try with_reducible rfl) ?_
 try simp only [Act.put,qA,qB,qC]
 refine wpK_v 2 rfl (fun x hx=>by obtain ⟨d0,d1,d2,d3⟩:=HLE.1 x hx;go_simp;try with_reducible rfl) ?_
 try simp only [Act.put,qA,qB,qC]
 refine wpK_v 3 rfl (fun x hx=>by obtain ⟨d0,d1,d2,d3⟩:=HLE.1 x hx;go_simp;try with_reducible rfl) ?_
 try simp only [Act.put,qA,qB,qC]
 refine wpK_v 4 rfl (fun x hx=>by obtain ⟨d0,d1,d2,d3⟩:=HLE.1 x hx;go_simp;try with_reducible rfl) ?_
 try simp only [Act.put,qA,qB,qC]
 refine wpK_v 5 rfl (fun x hx=>by obtain ⟨d0,d1,d2,d3⟩:=HLE.1 x hx;go_simp;try with_reducible rfl) ?_
 try simp only [Act.put,qA,qB,qC]
 refine wpK_v 6 rfl (fun x hx=>by obtain ⟨d0,d1,d2,d3⟩:=HLE.1 x hx;go_simp;try with_reducible rfl) ?_
 try simp only [Act.put,qA,qB,qC]
 refine wpK_v 7 rfl (fun x hx=>by obtain ⟨d0,d1,d2,d3⟩:=HLE.1 x hx;go_simp;try with_reducible rfl) ?_
 try simp only [Act.put,qA,qB,qC]
 refine wpK_v 8 rfl (fun x hx=>by obtain ⟨d0,d1,d2,d3⟩:=HLE.1 x hx;go_simp;try with_reducible rfl) ?_
 try simp only [Act.put,qA,qB,qC]
 refine qcn (by kernel_rfl) ?_
 intro y hy
 have HSY:=Sh.mk (HS1.1.below (Below.trans (Below.drew (Below.refl _ _)) hy)).less
 refine qmc (f:=236) (args:=#[.pointer (some ⟨tb,0,none⟩),.agg #[.int .i64 0,.int .i64 pid,.string nm,.bool true,.int .i64 0,.int .i64 0,.int .i64 0,.slice none 0 0,.int .i64 0]]) (i:=9) (by kernel_rfl) rfl (by rfl) (by go_simp) (by kernel_rfl) ?_
 refine (qil HSY.1 hn hnx pid nm true 0 0 0 0).mono ?_
 rintro e z ⟨rfl,gg,cap1,h9⟩
 refine ⟨_,rfl,?_⟩
 have H9:=Sh.mk h9
 clear h9 hy HLE HBX HS1 HB1 HC
 try simp only [Act.put,qA,qB,qC]
 go_wp2_with fail
 refine qac (fun w9=>SS w0 w9 ((tb,[.slice (some ⟨gg,0,none⟩) (n+1) cap1,.int .i64 (nx+1)])::L) B (some ⟨gg,0,none⟩) (n+1) cap1 (rs++[(⟨⟨nx,pid,nm,true,0,0,0,[],0⟩,none,0⟩:NR)])) H9.1 ?_
 intro w9 h9
 refine bodyPost_end (v:=.tuple #[]) (by simp [results,Tryz.results235,go_sem]) rfl ⟨rfl,gg,cap1,h9⟩
theorem chCreate (h:SS w0 W ((tb,[.slice (some ⟨g,0,none⟩) n cap,.int .i64 nx])::L) B (some ⟨g,0,none⟩) n cap rs) (hk:rs[k]?=some r) (hn:n<=1000) (hnx:0<=nx/\nx<=1000000) (hok:qae T=true) (hr:nds rs=T.nodes) (hx:nx=T.next) (hid:(Lit.int .i64 r.nd.id).wf=true) (path:ByteArray) (who:Int) (gr:Int) :
  Calls Tryz.prog 237 #[.agg #[.string path,.string (qab path).1,.string (qab path).2.1,.int .i64 who],.pointer (some ⟨tb,0,none⟩),.pointer (some ⟨g,k*9,none⟩),.int .i64 gr] W fun e w'=>e = .returned (.tuple #[])/\∃ gg cap1,SS w0 w' ((tb,[.slice (some ⟨gg,0,none⟩) (n+1) cap1,.int .i64 (nx+1)])::L) B (some ⟨gg,0,none⟩) (n+1) cap1 (rs++[(⟨⟨nx,r.nd.id,(qab path).2.1,false,qbk T r.nd.id,0,0,[],who⟩,none,0⟩:NR)]):=by
 have HSA:=Sh.mk (fun W' (hb:Below W.heap.size W W')=>by
  obtain ⟨lo,hi,q⟩:=((h.see hok hr hx).below hb).see
  exact implSchemaAt W' _ T lo hi r.nd.id q (qeg hok) (qem hok) hid)
 generalize qbk T r.nd.id=sch at HSA ⊢
 generalize (qab path).1=up
 generalize (qab path).2.1=nm
 have c0:=(h.cell hk 0 _ rfl).1
 obtain ⟨pid,hpid⟩:∃ pid,pid=r.nd.id:=⟨_,rfl⟩
 have HS:=Sh.mk h
 have HC:Sh (∀ W',Below W.heap.size W W'->W'.cell? ⟨g,k*9,none⟩=some (.int .i64 pid)):=⟨fun W' hb=>by rw [hpid];exact (hb.cell (p:=⟨g,k*9,none⟩) (h.nb.row_lt ⟨g,0,none⟩ rfl)).trans c0⟩
 rw [<-hpid] at HSA ⊢
 clear h hk c0 hpid hok hr hx hid
 go_enter Tryz.func237,Tryz.ntmps237
 go_upto_region 1 with fail
 obtain ⟨rb,hrb⟩:∃ rb,rb=W.heap.size:=⟨_,rfl⟩
 refine qaa (fun V=>SS w0 V ((rb,[.string path,.string up,.string nm,.int .i64 who])::(tb,[.slice (some ⟨g,0,none⟩) n cap,.int .i64 nx])::L) B (some ⟨g,0,none⟩) n cap rs/\Below W.heap.size W V) ⟨by rw [hrb];exact HS.1.new #[.string path,.string up,.string nm,.int .i64 who] 223,(Below.refl _ _).alloc (Nat.le_refl _) _⟩ ?_
 rintro W1 ⟨hS1,hb1⟩
 have HS1:=Sh.mk hS1
 have HB1:=Sh.mk hb1
 rw [<-hrb]
 clear hS1 hb1 hrb HS
 have HLE:Sh (∀ x,Later W1.drew x->x.cell? ⟨g,k*9,none⟩=some (.int .i64 pid)/\x.cell? ⟨rb,2,none⟩=some (.string nm)/\x.cell? ⟨tb,0,none⟩=some (.slice (some ⟨g,0,none⟩) n cap)/\x.cell? ⟨tb,1,none⟩=some (.int .i64 nx)/\x.cell? ⟨rb,3,none⟩=some (.int .i64 who)):=⟨fun x hx=>by
  have hb:Below W1.heap.size W1 x:=Below.trans (Below.drew (Below.refl _ _)) hx
  have M:=HS1.1.mb.below hb
  exact ⟨HC.1 x (HB1.1.trans (hb.mono HB1.1.size)),((M.at 0 rfl).1.2 2 _ rfl).1,((M.at 1 rfl).1.2 0 _ rfl).1,((M.at 1 rfl).1.2 1 _ rfl).1,((M.at 0 rfl).1.2 3 _ rfl).1⟩⟩
 have HBX:Sh (∀ x,Later W1.drew x->Below W.heap.size W x):=⟨fun x hx=>HB1.1.trans ((Below.trans (Below.drew (Below.refl _ _)) hx:Below W1.heap.size W1 x).mono HB1.1.size)⟩
 refine qas 19 (by kernel_rfl) ?_
 refine wpK_v 0 rfl (fun x hx=>by obtain ⟨d0,d1,d2,d3,d4⟩:=HLE.1 x hx;go_simp;try with_reducible rfl) ?_
 try simp only [Act.put,qA,qB,qC]
 refine wpK_v 1 rfl (fun x hx=>by obtain ⟨d0,d1,d2,d3,d4⟩:=HLE.1 x hx;go_simp;try with_reducible rfl) ?_
 try simp only [Act.put,qA,qB,qC]
 refine wpK_v 2 rfl (fun x hx=>by obtain ⟨d0,d1,d2,d3,d4⟩:=HLE.1 x hx;go_simp;try with_reducible rfl) ?_
 try simp only [Act.put,qA,qB,qC]
 refine wpK_v 3 rfl (fun x hx=>by obtain ⟨d0,d1,d2,d3,d4⟩:=HLE.1 x hx;go_simp;try with_reducible rfl) ?_
 try simp only [Act.put,qA,qB,qC]
 refine wpK_v 4 rfl (fun x hx=>by obtain ⟨d0,d1,d2,d3,d4⟩:=HLE.1 x hx;go_simp;try with_reducible rfl) ?_
 try simp only [Act.put,qA,qB,qC]
 refine wpK_v 5 rfl (fun x hx=>by obtain ⟨d0,d1,d2,d3,d4⟩:=HLE.1 x hx;go_simp;try with_reducible rfl) ?_
 try simp only [Act.put,qA,qB,qC]
 refine wpK_v 6 rfl (fun x hx=>by obtain ⟨d0,d1,d2,d3,d4⟩:=HLE.1 x hx;go_simp;try with_reducible rfl) ?_
 try simp only [Act.put,qA,qB,qC]
 refine wpK_v 7 rfl (fun x hx=>by obtain ⟨d0,d1,d2,d3,d4⟩:=HLE.1 x hx;go_simp;try with_reducible rfl) ?_
 try simp only [Act.put,qA,qB,qC]
 refine wpK_v 8 rfl (fun x hx=>by obtain ⟨d0,d1,d2,d3,d4⟩:=HLE.1 x hx;go_simp;try with_reducible rfl) ?_
 try simp only [Act.put,qA,qB,qC]
 refine wpK_v 9 rfl (fun x hx=>by obtain ⟨d0,d1,d2,d3,d4⟩:=HLE.1 x hx;go_simp;try with_reducible rfl) ?_
 try simp only [Act.put,qA,qB,qC]
 refine wpK_v 10 rfl (fun x hx=>by obtain ⟨d0,d1,d2,d3,d4⟩:=HLE.1 x hx;go_simp;try with_reducible rfl) ?_
 try simp only [Act.put,qA,qB,qC]
 refine wpK_v 11 rfl (fun x hx=>by obtain ⟨d0,d1,d2,d3,d4⟩:=HLE.1 x hx;go_simp;try with_reducible rfl) ?_
 try simp only [Act.put,qA,qB,qC]
 refine wpK_v 12 rfl (fun x hx=>by obtain ⟨d0,d1,d2,d3,d4⟩:=HLE.1 x hx;go_simp;try with_reducible rfl) ?_
 try simp only [Act.put,qA,qB,qC]
 refine wpK_v 13 rfl (fun x hx=>by obtain ⟨d0,d1,d2,d3,d4⟩:=HLE.1 x hx;go_simp;try with_reducible rfl) ?_
 try simp only [Act.put,qA,qB,qC]
 refine wpK_v 14 rfl (fun x hx=>by obtain ⟨d0,d1,d2,d3,d4⟩:=HLE.1 x hx;go_simp;try with_reducible rfl) ?_
 try simp only [Act.put,qA,qB,qC]
 refine qdp (i:=15) (v:=.int .i64 sch) (f:=238) (args:=#[.agg #[.slice (some ⟨g,0,none⟩) n cap,.int .i64 nx],.int .i64 pid]) rfl (by kernel_rfl) (by kernel_rfl) (by kernel_rfl) (by kernel_rfl) (fun _ _ _ h=>h) (by rfl) ?hya15 (fun x hx=>HSA.1 x (HBX.1 x hx)) ?resta15
 case hya15=>(intro x hx;obtain ⟨d0,d1,d2,d3,d4⟩:=HLE.1 x hx;go_simp;try with_reducible rfl)
 try simp only [Act.put,qA,qB,qC]
 refine wpK_v 16 rfl (fun x hx=>by obtain ⟨d0,d1,d2,d3,d4⟩:=HLE.1 x hx;go_simp;try with_reducible rfl) ?_
 try simp only [Act.put,qA,qB,qC]
 refine wpK_v 17 rfl (fun x hx=>by obtain ⟨d0,d1,d2,d3,d4⟩:=HLE.1 x hx;go_simp;try with_reducible rfl) ?_
 try simp only [Act.put,qA,qB,qC]
 refine wpK_v 18 rfl (fun x hx=>by obtain ⟨d0,d1,d2,d3,d4⟩:=HLE.1 x hx;go_simp;try with_reducible rfl) ?_
 try simp only [Act.put,qA,qB,qC]
 refine qcn (by kernel_rfl) ?_
 intro y hy
 have HSY:=Sh.mk (HS1.1.below (Below.trans (Below.drew (Below.refl _ _)) hy)).less
 refine qmc (f:=236) (args:=#[.pointer (some ⟨tb,0,none⟩),.agg #[.int .i64 0,.int .i64 pid,.string nm,.bool false,.int .i64 sch,.int .i64 0,.int .i64 0,.slice none 0 0,.int .i64 who]]) (i:=19) (by kernel_rfl) rfl (by rfl) (by go_simp) (by kernel_rfl) ?_
 refine (qil HSY.1 hn hnx pid nm false sch 0 0 who).mono ?_
 rintro e z ⟨rfl,gg,cap1,h9⟩
 refine ⟨_,rfl,?_⟩
 have H9:=Sh.mk h9
 clear h9 hy HLE HBX HS1 HB1 HC
 try simp only [Act.put,qA,qB,qC]
 go_wp2_with fail
 refine qac (fun w9=>SS w0 w9 ((tb,[.slice (some ⟨gg,0,none⟩) (n+1) cap1,.int .i64 (nx+1)])::L) B (some ⟨gg,0,none⟩) (n+1) cap1 (rs++[(⟨⟨nx,pid,nm,false,sch,0,0,[],who⟩,none,0⟩:NR)])) H9.1 ?_
 intro w9 h9
 refine bodyPost_end (v:=.tuple #[]) (by simp [results,Tryz.results237,go_sem]) rfl ⟨rfl,gg,cap1,h9⟩
theorem SS.swap {p q:Nat × List Value} (h:SS w0 W (p::q::L) B a n cap rs):SS w0 W (q::p::L) B a n cap rs:=by
 have hm:∀ x,x ∈ q::p::L->x ∈ p::q::L:=fun x hx=>by
  simp only [List.mem_cons] at hx ⊢
  rcases hx with h | h | h
  ·exact .inr (.inl h)
  ·exact .inl h
  ·exact .inr (.inr h)
 obtain ⟨d1,d2⟩:=List.pairwise_cons.1 h.mb.dist
 obtain ⟨d3,d4⟩:=List.pairwise_cons.1 d2
 exact ⟨⟨fun x hx=>h.mb.box x (hm x hx),List.pairwise_cons.2 ⟨fun x hx=>(List.mem_cons.1 hx).elim (fun e=>by rw [e];exact fun e2=>d1 q (by simp) e2.symm) (fun hx=>d3 x hx),List.pairwise_cons.2 ⟨fun x hx=>d1 x (by simp [hx]),d4⟩⟩,h.mb.bel⟩,h.nb,h.len,fun x hx=>h.ap x (hm x hx),h.lo⟩
theorem chDrop (h:SS w0 W ((tb,[.slice (some ⟨g,0,none⟩) n cap,.int .i64 nx])::L) B (some ⟨g,0,none⟩) n cap rs) (hk:rs[k]?=some r) (hn:n<=1000) (hok:qae T=true) (hr:nds rs=T.nodes) (hx:nx=T.next) (hne:qap T r.nd.id ≠ []) (path:ByteArray) (gr:Int) :
  Calls Tryz.prog 240 #[.agg #[.string path],.pointer (some ⟨tb,0,none⟩),.pointer (some ⟨g,k*9,none⟩),.int .i64 gr] W fun e w'=>e = .returned (.tuple #[])/\∃ m,SS w0 w' ((tb,[.slice (some ⟨g,0,none⟩) m cap,.int .i64 nx])::L) B (some ⟨g,0,none⟩) m cap (rs.filter (fun q=>!(qap T r.nd.id).contains q.nd.id)):=by
 have HBL:=Sh.mk (fun W' (hb:Below W.heap.size W W')=>((h.see hok hr hx).below hb).blw r.nd.id)
 have hXl:=qed T r.nd.id
 have c0:=(h.cell hk 0 _ rfl).1
 obtain ⟨id,hid⟩:∃ id,id=r.nd.id:=⟨_,rfl⟩
 have HS:=Sh.mk h
 have HC:Sh (∀ W',Below W.heap.size W W'->W'.cell? ⟨g,k*9,none⟩=some (.int .i64 id)):=⟨fun W' hb=>by rw [hid];exact (hb.cell (p:=⟨g,k*9,none⟩) (h.nb.row_lt ⟨g,0,none⟩ rfl)).trans c0⟩
 rw [<-hid] at HBL hXl hne ⊢
 unfold IPost at HBL
 generalize qap T id=X at HBL hXl hne ⊢
 have HNE:=Sh.mk hne
 clear h hk c0 hid hok hr hx hne
 go_enter Tryz.func240,Tryz.ntmps240
 go_upto_region 1 with fail
 obtain ⟨rb,hrb⟩:∃ rb,rb=W.heap.size:=⟨_,rfl⟩
 refine qaa (fun V=>SS w0 V ((rb,[.string path])::(tb,[.slice (some ⟨g,0,none⟩) n cap,.int .i64 nx])::L) B (some ⟨g,0,none⟩) n cap rs/\Below W.heap.size W V) ⟨by rw [hrb];exact HS.1.new #[.string path] 227,(Below.refl _ _).alloc (Nat.le_refl _) _⟩ ?_
 rintro W1 ⟨hS1,hb1⟩
 have HS1:=Sh.mk hS1
 have HB1:=Sh.mk hb1
 rw [<-hrb]
 clear hS1 hb1 hrb HS
 have HLE:Sh (∀ x,Later W1.drew x->x.cell? ⟨g,k*9,none⟩=some (.int .i64 id)/\x.cell? ⟨tb,0,none⟩=some (.slice (some ⟨g,0,none⟩) n cap)/\x.cell? ⟨tb,1,none⟩=some (.int .i64 nx)):=⟨fun x hx=>by
  have hb:Below W1.heap.size W1 x:=Below.trans (Below.drew (Below.refl _ _)) hx
  have M:=HS1.1.mb.below hb
  exact ⟨HC.1 x (HB1.1.trans (hb.mono HB1.1.size)),((M.at 1 rfl).1.2 0 _ rfl).1,((M.at 1 rfl).1.2 1 _ rfl).1⟩⟩
 have HBX:Sh (∀ x,Later W1.drew x->Below W.heap.size W x):=⟨fun x hx=>HB1.1.trans ((Below.trans (Below.drew (Below.refl _ _)) hx:Below W1.heap.size W1 x).mono HB1.1.size)⟩
 have HSX:Sh (∀ x,Later W1.drew x->SS w0 x ((rb,[.string path])::(tb,[.slice (some ⟨g,0,none⟩) n cap,.int .i64 nx])::L) B (some ⟨g,0,none⟩) n cap rs):=⟨fun x hx=>HS1.1.below (Below.trans (Below.drew (Below.refl _ _)) hx)⟩
 obtain ⟨m,hm⟩:∃ m,m=X.length:=⟨_,rfl⟩
 have HML:=Sh.mk hm
 refine qas 9 (by kernel_rfl) ?_
 refine wpK_v 0 rfl (fun x hx=>by obtain ⟨d0,d1,d2⟩:=HLE.1 x hx;go_simp;try with_reducible rfl) ?_
 try simp only [Act.put,qA,qB,qC]
 refine wpK_v 1 rfl (fun x hx=>by obtain ⟨d0,d1,d2⟩:=HLE.1 x hx;go_simp;try with_reducible rfl) ?_
 try simp only [Act.put,qA,qB,qC]
 refine wpK_v 2 rfl (fun x hx=>by obtain ⟨d0,d1,d2⟩:=HLE.1 x hx;go_simp;try with_reducible rfl) ?_
 try simp only [Act.put,qA,qB,qC]
 refine wpK_v 3 rfl (fun x hx=>by obtain ⟨d0,d1,d2⟩:=HLE.1 x hx;go_simp;try with_reducible rfl) ?_
 try simp only [Act.put,qA,qB,qC]
 refine wpK_v 4 rfl (fun x hx=>by obtain ⟨d0,d1,d2⟩:=HLE.1 x hx;go_simp;try with_reducible rfl) ?_
 try simp only [Act.put,qA,qB,qC]
 refine wpK_v 5 rfl (fun x hx=>by obtain ⟨d0,d1,d2⟩:=HLE.1 x hx;go_simp;try with_reducible rfl) ?_
 try simp only [Act.put,qA,qB,qC]
 refine wpK_v 6 rfl (fun x hx=>by obtain ⟨d0,d1,d2⟩:=HLE.1 x hx;go_simp;try with_reducible rfl) ?_
 try simp only [Act.put,qA,qB,qC]
 refine qja (f:=183) (args:=#[.agg #[.slice (some ⟨g,0,none⟩) n cap,.int .i64 nx],.int .i64 id]) (C:=#[.slice none 0 0]) (t:=49) (i:=7) (j:=8) (by kernel_rfl) rfl rfl (by rfl) (by rfl) (fun x hx=>by go_simp) (fun x hx=>by kernel_rfl) (fun x hx=>(HBL.1 x (HBX.1 x hx)).mono ?_) (fun x hx=>?_)
 ·rintro e y ⟨bv,rfl,hba,hby⟩
  refine ⟨_,rfl,hby,?_⟩
  obtain ⟨ba,c,rfl,-,hor⟩:=hba
  obtain ⟨ga,rfl,hga1,hga2,hwa⟩:=hor.resolve_left HNE.1
  have HY:=Sh.mk ((HSX.1 x hx).add hby hwa hga1)
  rw [<-hm]
  clear hx hby hor hga1 hga2 hwa
  try simp only [Act.put,qA,qB,qC]
  refine qpj (i:=8) (by kernel_rfl) rfl (by rfl) (fun x2 hx2=>⟨.pointer (some ⟨x2.heap.size,0,none⟩),x2.alloc (.cells #[.slice none 0 0] 49),by kernel_rfl,(Below.refl _ _).alloc (Nat.le_refl _) _,?_⟩)
  have HY2:=Sh.mk ((HY.1.below hx2).new #[.slice none 0 0] 49)
  obtain ⟨gb,hgb⟩:∃ gb,gb=x2.heap.size:=⟨_,rfl⟩
  rw [<-hgb] at HY2 ⊢
  clear hx2 hgb
  try simp only [Act.put,qA,qB,qC]
  refine qcn (by kernel_rfl) ?_
  intro x3 hx3
  have HY3:=Sh.mk (HY2.1.below hx3)
  obtain ⟨q0,qf0⟩:=(HY3.1.mb.at 0 rfl).1.2 0 _ rfl
  refine qdz (y:=x3.setCell ⟨gb,0,none⟩ (.slice (some ⟨ga,0,none⟩) m c)) (i:=9) (by kernel_rfl) rfl (by rfl) (by go_simp) (by kernel_rfl) ?_
  have HZ:Sh (SS w0 (x3.setCell ⟨gb,0,none⟩ (.slice (some ⟨ga,0,none⟩) m c)) ((gb,[.slice (some ⟨ga,0,none⟩) m c])::(ga,ics X)::(rb,[.string path])::(tb,[.slice (some ⟨g,0,none⟩) n cap,.int .i64 nx])::L) B (some ⟨g,0,none⟩) n cap rs):=⟨HY3.1.setBox 0 rfl 0 (.slice (some ⟨ga,0,none⟩) m c) (by simp)⟩
  generalize x3.setCell ⟨gb,0,none⟩ (.slice (some ⟨ga,0,none⟩) m c)=Z at HZ ⊢
  clear hx3 q0 qf0 HY3 HY2 HY hm HLE HBX HSX
  simp only [Act.put]
  go_upto_region 2 with fail
  have n0:=((HZ.1.mb.at 3 rfl).1.2 0 _ rfl).1
  obtain ⟨z0,zf0⟩:=(HZ.1.mb.at 3 rfl).1.2 0 _ rfl
  have HDEL:=Sh.mk (qkl HZ.1 (fun nd=>X.contains nd.id) (.pointer (some ⟨gb,0,none⟩)) hn (fun W' M r=>by
   have h1:=(M.at 0 rfl).1
   have h2:=((M.at 1 rfl).1).crow
   have h3:=(h1.2 0 _ rfl).1
   rw [HML.1] at h3
   exact qnj r gb (some ⟨ga,0,none⟩) c X W' h3 h1.1 h2 (by omega)))
  go_wp2_with (go_at_call 241;refine HDEL.1.mono ?_;rintro e w8 ⟨m8,rfl,h8⟩;have H8:=Sh.mk h8;obtain ⟨v0,vf0⟩:=(H8.1.mb.at 3 rfl).1.2 0 _ rfl;clear h8 n0 z0 zf0)
  refine qac (fun w9=>SS w0 w9 ((tb,[.slice (some ⟨g,0,none⟩) m8 cap,.int .i64 nx])::L) B (some ⟨g,0,none⟩) m8 cap (rs.filter (fun r=>!X.contains r.nd.id))) ((H8.1.setBox 3 rfl 0 (.slice (some ⟨g,0,none⟩) m8 cap) (by simp)).less.less.less) ?_
  intro w9 h9
  refine bodyPost_end (v:=.tuple #[]) (by simp [results,Tryz.results240,go_sem]) rfl ⟨rfl,m8,h9⟩
 ·have HY:=Sh.mk ((HSX.1 x hx).new #[.slice none 0 0] 49)
  have hbxx:Sh (Below W.heap.size W (x.alloc (.cells #[.slice none 0 0] 49))):=⟨(HBX.1 x hx).alloc (HBX.1 x hx).size _⟩
  have HLY:Sh (∀ z,Later (x.alloc (.cells #[.slice none 0 0] 49)) z->z.cell? ⟨g,k*9,none⟩=some (.int .i64 id)/\z.cell? ⟨tb,0,none⟩=some (.slice (some ⟨g,0,none⟩) n cap)/\z.cell? ⟨tb,1,none⟩=some (.int .i64 nx)):=⟨fun z hz=>HLE.1 z (hx.trans (Below.trans ((Below.refl x.heap.size x).alloc (Nat.le_refl _) _) (Below.mono hz (by simp))))⟩
  obtain ⟨gb,hgb⟩:∃ gb,gb=x.heap.size:=⟨_,rfl⟩
  rw [<-hgb] at HY ⊢
  generalize x.alloc (.cells #[.slice none 0 0] 49)=x2 at HY hbxx HLY ⊢
  clear hgb hx
  try simp only [Act.put,qA,qB,qC]
  refine qdh (f:=183) (args:=#[.agg #[.slice (some ⟨g,0,none⟩) n cap,.int .i64 nx],.int .i64 id]) (i:=7) (by kernel_rfl) rfl (by rfl) (fun x3 hx3=>by go_simp) (fun x3 hx3=>(HBL.1 x3 (hbxx.1.trans (Below.mono hx3 hbxx.1.size))).mono ?_)
  rintro e y ⟨bv,rfl,hba,hby⟩
  refine ⟨_,rfl,hby,?_⟩
  obtain ⟨ba,c,rfl,-,hor⟩:=hba
  obtain ⟨ga,rfl,hga1,hga2,hwa⟩:=hor.resolve_left HNE.1
  have HY2:=Sh.mk ((HY.1.below hx3).add hby hwa hga1).swap
  rw [<-hm]
  clear hx3 hby hor hga1 hga2 hwa HY
  try simp only [Act.put,qA,qB,qC]
  refine qcn (by kernel_rfl) ?_
  intro x4 hx4
  have HY3:=Sh.mk (HY2.1.below hx4)
  obtain ⟨q0,qf0⟩:=(HY3.1.mb.at 0 rfl).1.2 0 _ rfl
  refine qdz (y:=x4.setCell ⟨gb,0,none⟩ (.slice (some ⟨ga,0,none⟩) m c)) (i:=9) (by kernel_rfl) rfl (by rfl) (by go_simp) (by kernel_rfl) ?_
  have HZ:Sh (SS w0 (x4.setCell ⟨gb,0,none⟩ (.slice (some ⟨ga,0,none⟩) m c)) ((gb,[.slice (some ⟨ga,0,none⟩) m c])::(ga,ics X)::(rb,[.string path])::(tb,[.slice (some ⟨g,0,none⟩) n cap,.int .i64 nx])::L) B (some ⟨g,0,none⟩) n cap rs):=⟨HY3.1.setBox 0 rfl 0 (.slice (some ⟨ga,0,none⟩) m c) (by simp)⟩
  generalize x4.setCell ⟨gb,0,none⟩ (.slice (some ⟨ga,0,none⟩) m c)=Z at HZ ⊢
  clear hx4 q0 qf0 HY3 HY2 hm HLE HBX HSX hbxx HLY
  simp only [Act.put]
  go_upto_region 2 with fail
  have n0:=((HZ.1.mb.at 3 rfl).1.2 0 _ rfl).1
  obtain ⟨z0,zf0⟩:=(HZ.1.mb.at 3 rfl).1.2 0 _ rfl
  have HDEL:=Sh.mk (qkl HZ.1 (fun nd=>X.contains nd.id) (.pointer (some ⟨gb,0,none⟩)) hn (fun W' M r=>by
   have h1:=(M.at 0 rfl).1
   have h2:=((M.at 1 rfl).1).crow
   have h3:=(h1.2 0 _ rfl).1
   rw [HML.1] at h3
   exact qnj r gb (some ⟨ga,0,none⟩) c X W' h3 h1.1 h2 (by omega)))
  go_wp2_with (go_at_call 241;refine HDEL.1.mono ?_;rintro e w8 ⟨m8,rfl,h8⟩;have H8:=Sh.mk h8;obtain ⟨v0,vf0⟩:=(H8.1.mb.at 3 rfl).1.2 0 _ rfl;clear h8 n0 z0 zf0)
  refine qac (fun w9=>SS w0 w9 ((tb,[.slice (some ⟨g,0,none⟩) m8 cap,.int .i64 nx])::L) B (some ⟨g,0,none⟩) m8 cap (rs.filter (fun r=>!X.contains r.nd.id))) ((H8.1.setBox 3 rfl 0 (.slice (some ⟨g,0,none⟩) m8 cap) (by simp)).less.less.less) ?_
  intro w9 h9
  refine bodyPost_end (v:=.tuple #[]) (by simp [results,Tryz.results240,go_sem]) rfl ⟨rfl,m8,h9⟩
end Go.Proofs.YtoglebfiobofoaaGreatDoor
