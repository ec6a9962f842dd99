/- Texts of ours, laid one behind the other: CmB, CmF, ChB, ChC, ChD, ChG. -/
import Derived.Test.YtackbhpgdohimaaGreatDoorQkCmA
import Derived.Test.YtackbhpgdohimaaGreatDoorQk12
import Derived.Test.YtackbhpgdohimaaGreatDoorQk9
import Derived.Test.YtackbhpgdohimaaGreatDoorQk7
import Derived.Test.YtackbhpgdohimaaGreatDoorQk11
import Derived.Test.YtackbhpgdohimaaGreatDoorQkSpF
import Derived.Test.YtackbhpgdohimaaGreatDoorQkStF
import Derived.Test.YtackbhpgdohimaaGreatDoorQk8
import Derived.Test.YtackbhpgdohimaaGreatDoorQk4
/- CmB: . -/
namespace Go.Proofs.YtackbhpgdohimaaGreatDoor
set_option maxRecDepth 100000
set_option maxHeartbeats 16000000
open Go.RowKit
attribute [local go_sem ↓] Go.wp_at_zero Go.wp_at_succ
section
open BigFrame
variable {S:List Str} {W w0:World}
theorem SL.two (h:SL w0 W S) {i j:Nat} {a b:Str} (hi:S[i]?=some a) (hj:S[j]?=some b) (hij:i ≠ j):a.hi<=b.lo\/b.hi<=a.lo:=by
 obtain ⟨i1,i2⟩:=List.getElem?_eq_some_iff.1 hi;obtain ⟨j1,j2⟩:=List.getElem?_eq_some_iff.1 hj;rcases Nat.lt_or_gt_of_ne hij with q | q
 ·have:=List.pairwise_iff_getElem.1 h.apart i j i1 j1 q
  rw [i2,j2] at this;exact this
 ·have:=List.pairwise_iff_getElem.1 h.apart j i j1 i1 q
  rw [i2,j2] at this;exact this.symm
theorem SL.three (h:SL w0 W S) (i j k:Nat) {a b c:Str} (hi:S[i]?=some a) (hj:S[j]?=some b) (hk:S[k]?=some c) (h1:i ≠ j) (h2:i ≠ k) (h3:j ≠ k):SL w0 W [a,b,c]:=by
 refine ⟨h.bel,fun s hs=>h.is s ?_,List.pairwise_cons.2 ⟨fun s hs=>?_,List.pairwise_cons.2 ⟨fun s hs=>?_,List.pairwise_cons.2 ⟨fun s hs=>(by cases hs),.nil⟩⟩⟩⟩
 ·simp only [List.mem_cons,List.not_mem_nil,or_false] at hs
  rcases hs with rfl | rfl | rfl
  ·exact List.mem_of_getElem? hi
  ·exact List.mem_of_getElem? hj
  ·exact List.mem_of_getElem? hk
 ·simp only [List.mem_cons,List.not_mem_nil,or_false] at hs
  rcases hs with rfl | rfl
  ·exact h.two hi hj h1
  ·exact h.two hi hk h2
 ·simp only [List.mem_cons,List.not_mem_nil,or_false] at hs
  subst hs;exact h.two hj hk h3
noncomputable def cmX (up:Bool) (T:TM) (gr:Int) (D:List FM) (e:EM):TM × Int × List FM × Int:=
 if up=false then (T,gr,D,11)
 else if (qak T e gr).2 ≠ 0 then (T,gr,D,(qak T e gr).2)
 else if (doAs D (logA e)).2<(logA e).length\/99000<qay T e gr then (T,gr,D,11)
 else ((qak T e gr).1,qay T e gr,(doAs D (logA e)).1,0)
theorem qjv {T:TM} {e:EM} {gr:Int} (h:(qak T e gr).2=0):qaq e=true:=by
 by_cases hm:mayX T e gr=false
 ·unfold qak at h
  rw [if_pos hm] at h;cases h
 ·exact (qkv (by simpa using hm)).2.1
theorem qpp (D:List FM) (xs:List AM):(doAs D xs).2<=xs.length:=by
 induction xs generalizing D with
 | nil=>exact Nat.zero_le _
 | cons a rs ih =>
  unfold doAs;split
  ·exact Nat.zero_le _
  ·have:=ih (by assumption)
   simp only [List.length_cons];omega
theorem frame_most (r:ByteArray):(qfl r).size<=2*r.size+5:=by
 have h4:(fourB (W.sumOf r)).size=4:=rfl;have:=W.vt_len r.size;unfold qfl;rw [ByteArray.size_append,ByteArray.size_append,h4];have e:∀ l:List UInt8,(⟨l.toArray⟩:ByteArray).size=l.length:=fun l=>List.size_toArray ..;rw [e];omega
theorem qnh (e:EM):AGood (logA e)/\(logA e).length<=2:=by
 unfold logA;split
 ·rename_i h
  refine ⟨fun x hx=>?_,zL⟩;have:=qhd h;have hfr:=frame_most (editT e);simp only [List.mem_cons,List.not_mem_nil,or_false] at hx;rcases hx with rfl | rfl
  ·exact ⟨show nmLog.size<=9223372036854775807 by decide,by dsimp only;omega,Nat.zero_le _⟩
  ·exact ⟨show nmLog.size<=9223372036854775807 by decide,Nat.zero_le _,Nat.zero_le _⟩
 ·exact ⟨fun x hx=>(by cases hx),Nat.zero_le _⟩
theorem implDoAll (a c:Option Addr) (fs:List FM) (xs:List AM) (n m cap capx:Nat) (w:World) (hn:n=fs.length) (hm:m=xs.length) (hr:FRow w a fs) (hf:FFit fs) (hl:n<=1048576) (hfs:fsum fs<=1048576) (hx:ARow w c xs) (hxg:AGood xs) (hxl:m<=1048576) :
  Calls Tryz.prog 27 #[.agg #[.slice a n cap],.slice c m capx] w fun e w'=>qcr (doAs fs xs).1 (.bool (decide ((doAs fs xs).2=m))) w e w':=by
 have HD:=zS (fun (W:World) (hb:Below w.heap.size w W)=>implDoActs a c fs xs cap capx W (hr.stays hb) hf (by omega) hfs (hx.stays hb) hxg (by omega));rw [<-hn,<-hm] at HD;have HK:=zS (qpp fs xs);rw [<-hm] at HK;have HXL:=zS hxl;unfold qcr at HD ⊢;generalize doAs fs xs=R at *;obtain ⟨D',k⟩:=R;dsimp only at *;clear hn hm hr hf hl hfs hx hxg hxl;have HS:=zS (((SL.start w).new #[.slice a n cap] 40).new #[.slice none 0 0] 40);simp only [World.size_alloc] at HS;obtain ⟨b1,hb1⟩:∃ q,q=w.heap.size:=⟨_,rfl⟩;go_enter Tryz.func27,Tryz.ntmps27;go_upto_region 1 with fail;rw [<-hb1] at HS;refine qaa (SL.p w _) HS.1 ?_;rw [<-hb1];intro W0 hS0;have H:=zS hS0;clear hS0 HS hb1;have x0:=(H.1.bx 1 rfl 0 _ rfl).1;go_upto_region 2 with (go_at_call 72;refine (HD.1 _ H.1.bel).mono ?_;rintro e w1 ⟨va,c1,rfl,hf8,hc8,hb8⟩;have HF8:=zS hf8;have HC8:=zS hc8;have HB8:=zS hb8;clear hf8 hc8 hb8 x0;replace H:=zS (H.1.add (s:=rwS va (fcs D') W0.heap.size w1.heap.size) HB8.1 HF8.1 (rwS.loc _ _ _ _) zL zL));obtain ⟨nd,hnd⟩:∃ q,q=D'.length:=⟨_,rfl⟩;rw [<-hnd] at HC8 ⊢;have HND:=zS hnd;clear hnd;replace H:=zS (H.1.new #[.slice va nd c1] 40);obtain ⟨b4,hb4⟩:∃ q,q=w1.heap.size:=⟨_,rfl⟩;rw [<-hb4] at H;obtain ⟨l1,hl1⟩:∃ q,q=W0.heap.size:=⟨_,rfl⟩;rw [<-hl1] at H;refine qaa (SL.p w _) H.1 ?_;rw [<-hb4];intro W2 hW;replace H:=zS hW;clear hW hb4 hl1 HB8 HF8;have y0:=(H.1.bx 0 rfl 0 _ rfl).1;obtain ⟨r0,s0⟩:=H.1.bx 2 rfl 0 _ rfl;have HE:=zS (H.1.put 2 rfl 0 (.slice va nd c1) (by simp));have HB:=zS (H.1.is _ (List.mem_cons_of_mem _ zM));clear H;go_wp2_with fail
 all_goals
  refine bodyPost_ret (v:=.tuple #[.agg #[.slice va nd c1],.bool (decide (k=m))]) (by simp [results,Tryz.results27,go_sem,r0];by_cases hk:k=m <;> simp [hk] <;> omega) rfl ?_;obtain ⟨hp,hloc,q1,q2⟩:=HE.1.is _ (List.mem_cons_of_mem _ zM);exact ⟨va,c1,by rw [<-HND.1],qot hp q1 q2,by rw [<-HND.1];exact HC8.1,HE.1.bel⟩
end
section
variable {nx:Int} {L:List (Nat × List Value)} {rs:List NR} {r:NR} {B cap g k n tb:Nat} {a:Option Addr} {T:TM} {W w0:World}
theorem cm_fit {up:Bool} {gr:Int} {D:List FM} {e:EM} (hf:NFit T) (hd:FFit D) (hl:D.length<=1048576):NFit (cmX up T gr D e).1/\(cmX up T gr D e).2.2.1.length<=1048576:=by
 unfold cmX;split
 ·exact ⟨hf,hl⟩
 ·split
  ·exact ⟨hf,hl⟩
  ·split
   ·exact ⟨hf,hl⟩
   ·exact ⟨apply_fit hf e gr,(qrz hd hl (doAs_or D (logA e))).2⟩
theorem SS.see (h:SS w0 W L B a n cap rs) (hok:qae T=true) (hr:nds rs=T.nodes) (hx:nx=T.next):SeeT W a n cap nx T:=by
 refine ⟨hok,B,W.heap.size,?_⟩;have:=(h.nb.ans (w:=w0) (nx:=nx) hr h.lo).see;obtain ⟨nodes,next⟩:=T;dsimp only at hr hx;subst hx;have h9:=h.nb.fin (nx:=nx);rw [hr] at h9;exact h9.see
theorem chMove (h:SS w0 W ((tb,[.slice (some ⟨g,0,none⟩) n cap,.int .i64 nx])::L) B (some ⟨g,0,none⟩) n cap rs) (hk:rs[k]?=some r) (hok:qae T=true) (hr:nds rs=T.nodes) (hx:nx=T.next) (path dest:ByteArray) (gr:Int) :
  Calls Tryz.prog 249 #[.agg #[.string path,.string dest,.string (qab dest).1,.string (qab dest).2.1],.pointer (some ⟨tb,0,none⟩),.pointer (some ⟨g,k*9,none⟩),.int .i64 gr] W fun e w'=>e = .returned (.tuple #[])/\SS w0 w' ((tb,[.slice (some ⟨g,0,none⟩) n cap,.int .i64 nx])::L) B (some ⟨g,0,none⟩) n cap (rs.set k ⟨{ r.nd with parent:=upX T dest,name:=(qab dest).2.1 },r.loc,r.cap⟩):=by
 have hsm:=qbf dest;have HF:=zS (fun W' (hb:Below W.heap.size W W')=>((h.see hok hr hx).below hb).find (qab dest).1 (by omega));have hu:findX T (qab dest).1=upX T dest:=rfl;simp only [hu] at HF;generalize (qab dest).1=up at HF ⊢;generalize (qab dest).2.1=nm;generalize upX T dest=u at HF ⊢;have HK:=zS hk;have HS:=zS h;clear h hk hok hr hx hu hsm;go_enter Tryz.func249,Tryz.ntmps249;go_upto_region 1 with fail;obtain ⟨rb,hrb⟩:∃ rb,rb=W.heap.size:=⟨_,rfl⟩;refine qaa (fun V=>SS w0 V ((rb,[.string path,.string dest,.string up,.string nm])::(tb,[.slice (some ⟨g,0,none⟩) n cap,.int .i64 nx])::L) B (some ⟨g,0,none⟩) n cap rs/\Below W.heap.size W V) ⟨by rw [hrb];exact HS.1.new #[.string path,.string dest,.string up,.string nm] 181,zB.alloc zL _⟩ ?_;rintro W1 ⟨hS1,hb1⟩;have HS1:=zS hS1;have HB1:=zS hb1;rw [<-hrb];clear hS1 hb1 hrb HS;have ne1:¬ (g=tb):=(HS1.1.ap (tb,[.slice (some ⟨g,0,none⟩) n cap,.int .i64 nx]) (List.mem_cons_of_mem _ zM)).1 ⟨g,0,none⟩ rfl;have ne2:¬ (tb=g):=fun e=>ne1 e.symm;have ne3:¬ (g=rb):=(HS1.1.ap (rb,[.string path,.string dest,.string up,.string nm]) zM).1 ⟨g,0,none⟩ rfl;have ne4:¬ (rb=g):=fun e=>ne3 e.symm;obtain ⟨n0,n1⟩:=bwb2 ((HS1.1.mb.at 1 rfl).1);have x2:=((HS1.1.mb.at 0 rfl).1.2 2 _ rfl).1;have x3:=((HS1.1.mb.at 0 rfl).1.2 3 _ rfl).1;have lt1:=(HS1.1.mb.at 1 rfl).1.1;have lt0:=(HS1.1.mb.at 0 rfl).1.1
 go_region_held3 (fun w'=>w'.cell? ⟨tb,0,none⟩=some (.slice (some ⟨g,0,none⟩) n cap)/\w'.cell? ⟨tb,1,none⟩=some (.int .i64 nx)/\w'.cell? ⟨rb,2,none⟩=some (.string up)/\w'.cell? ⟨rb,3,none⟩=some (.string nm)) (first | go_keep | (rw [hw8.cell (p:=⟨tb,0,none⟩) lt1,hw8.cell (p:=⟨tb,1,none⟩) lt1,hw8.cell (p:=⟨rb,2,none⟩) lt0,hw8.cell (p:=⟨rb,3,none⟩) lt0];refine ⟨?_,?_,?_,?_⟩ <;> assumption)) ((go_at_call 65;refine (HF.1 _ (HB1.1.drew)).mono ?_;rintro e w8 ⟨rfl,hw8⟩;have hb9:=zS (Below.trans zD hw8:Below W1.heap.size W1 w8);have hm1:=zS ((HS1.1.below hb9.1).cell HK.1 1 _ rfl);have hm2:=zS ((HS1.1.below hb9.1).cell HK.1 2 _ rfl);obtain ⟨m1,mf1⟩:=hm1.1;obtain ⟨m2,mf2⟩:=hm2.1))
 all_goals
  go_wp2_with fail;refine qad (fun w9=>SS w0 w9 ((tb,[.slice (some ⟨g,0,none⟩) n cap,.int .i64 nx])::L) B (some ⟨g,0,none⟩) n cap (rs.set k ⟨{ r.nd with parent:=u,name:=nm },r.loc,r.cap⟩)) ?_ ?_
  ·have h8:=HS1.1.below hb9.1
   have h9:=h8.put HK.1 1 (by omega) (.int .i64 u) ⟨{ r.nd with parent:=u },r.loc,r.cap⟩ rfl rfl rfl rfl
   have hk2:(rs.set k ⟨{ r.nd with parent:=u },r.loc,r.cap⟩)[k]?=some ⟨{ r.nd with parent:=u },r.loc,r.cap⟩:=by
    obtain ⟨hk',-⟩:=List.getElem?_eq_some_iff.1 HK.1;rw [List.getElem?_set_self hk']
   have h10:=h9.put hk2 2 (by omega) (.string nm) ⟨{ r.nd with parent:=u,name:=nm },r.loc,r.cap⟩ rfl rfl rfl rfl;rw [List.set_set] at h10;exact h10.less
  ·intro w9 h9
   refine bodyPost_end (v:=.tuple #[]) (by simp [results,Tryz.results249,go_sem]) rfl ⟨rfl,h9⟩
theorem SS.snoc {w0 W w5:World} {B g n cap gg cap1:Nat} {o:Obj} (h:SS w0 W L B (some ⟨g,0,none⟩) n cap rs) (hp:r.nd.pieces=[]) (hl:r.loc=none) (hc:r.cap=0)
  (ho:w5.ownsRow B 90 9 (.slice (some ⟨gg,0,none⟩) (n+1) cap1) (n+1) (ncs rs++qaj r)) (hg:((W.alloc o).drew).grownBy w5 (Value.slice (some ⟨g,0,none⟩) n cap).ownBlock) (hat:(Value.slice (some ⟨g,0,none⟩) n cap).ownBlock=some gg\/gg=W.heap.size+1) :
  SS w0 w5 L B (some ⟨gg,0,none⟩) (n+1) cap1 (rs++[r]):=by
 have hba:Below W.heap.size W (W.alloc o).drew:=(zB.alloc zL _).drew;have hgB:B<=g:=(h.nb.own.lt g rfl).1;have hW:W.heap.size<=(W.alloc o).drew.heap.size:=hba.size;refine ⟨(h.mb.below hba).far hg (fun p hp' e=>(h.ap p hp').1 ⟨g,0,none⟩ rfl (by cases e;rfl)) (fun q e=>by cases e;show w0.heap.size<=g;have:=h.lo;omega),?_,by rw [List.length_append,List.length_singleton,h.len],fun p hp'=>⟨fun q e=>?_,fun s hs q e=>?_⟩,h.lo⟩
 ·refine h.nb.snoc (v':=.slice (some ⟨gg,0,none⟩) (n+1) cap1) hba ?_ (fun hne=>absurd hl hne) (by rw [h.len];exact ho) hg
  rw [hp,hl,hc];exact World.ownsRow_nil _ B 143 2
 ·cases e
  show gg ≠ p.1
  rcases hat with e | e
  ·have:g=gg:=by simpa [Value.ownBlock] using e
   rw [<-this];exact (h.ap p hp').1 ⟨g,0,none⟩ rfl
  ·have:=(h.mb.box p hp').1.1
   omega
 ·rcases List.mem_append.1 hs with m | m
  ·exact (h.ap p hp').2 s m q e
  ·rw [List.mem_singleton.1 m,hl] at e
   cases e
theorem qjt (h:SS w0 W ((tb,[.slice (some ⟨g,0,none⟩) n cap,.int .i64 nx])::L) B (some ⟨g,0,none⟩) n cap rs) (hn:n<=1000) (hnx:0<=nx/\nx<=1000000) (parent:Int) (name:ByteArray) (dir:Bool) (schema quota ln writer:Int) :
  Calls Tryz.prog 246 #[.pointer (some ⟨tb,0,none⟩),.agg #[.int .i64 0,.int .i64 parent,.string name,.bool dir,.int .i64 schema,.int .i64 quota,.int .i64 ln,.slice none 0 0,.int .i64 writer]] W fun e w'=>e = .returned (.tuple #[])/\∃ gg cap1,SS w0 w' ((tb,[.slice (some ⟨gg,0,none⟩) (n+1) cap1,.int .i64 (nx+1)])::L) B (some ⟨gg,0,none⟩) (n+1) cap1 (rs++[(⟨⟨nx,parent,name,dir,schema,quota,ln,[],writer⟩,none,0⟩:NR)]):=by
 obtain ⟨i0,hin,hz0,hz1,hz2⟩:=info_parts qjw;have HS:=zS h;clear h;go_enter Tryz.func246,Tryz.ntmps246;go_upto_region 1 with fail;obtain ⟨xb,hxb⟩:∃ xb,xb=W.heap.size:=⟨_,rfl⟩;refine qaa (fun V=>SS w0 V ((xb,[.int .i64 0,.int .i64 parent,.string name,.bool dir,.int .i64 schema,.int .i64 quota,.int .i64 ln,.slice none 0 0,.int .i64 writer])::(tb,[.slice (some ⟨g,0,none⟩) n cap,.int .i64 nx])::L) B (some ⟨g,0,none⟩) n cap rs) (by rw [hxb];exact HS.1.new #[.int .i64 0,.int .i64 parent,.string name,.bool dir,.int .i64 schema,.int .i64 quota,.int .i64 ln,.slice none 0 0,.int .i64 writer] 90) ?_;intro W1 hS1;have HS1:=zS hS1;rw [<-hxb];clear hS1 hxb HS;have n1:=((HS1.1.mb.at 1 rfl).1.2 1 _ rfl).1;obtain ⟨y0,yf0⟩:=(HS1.1.mb.at 0 rfl).1.2 0 _ rfl;go_upto_region 2 with fail;refine qaa (fun V=>SS w0 V ((xb,[.int .i64 nx,.int .i64 parent,.string name,.bool dir,.int .i64 schema,.int .i64 quota,.int .i64 ln,.slice none 0 0,.int .i64 writer])::(tb,[.slice (some ⟨g,0,none⟩) n cap,.int .i64 nx])::L) B (some ⟨g,0,none⟩) n cap rs) (HS1.1.setBox 0 rfl 0 (.int .i64 nx) (by simp)) ?_;intro W2 hS2;have HS2:=zS hS2;clear hS2 HS1 n1 y0 yf0;have hrow:=HS2.1.nb.own;rw [HS2.1.len] at hrow;have ne1:¬ (g=tb):=(HS2.1.ap (tb,[.slice (some ⟨g,0,none⟩) n cap,.int .i64 nx]) (List.mem_cons_of_mem _ zM)).1 ⟨g,0,none⟩ rfl;have ne2:¬ (tb=g):=fun e=>ne1 e.symm;have ne3:¬ (tb=xb):=fun e=>(List.pairwise_cons.1 HS2.1.mb.dist).1 _ zM e.symm;have nb2:(Value.slice (some ⟨g,0,none⟩) n cap).ownBlock ≠ some tb:=fun e=>ne1 (by simpa [Value.ownBlock] using e);have n0:=((HS2.1.mb.at 1 rfl).1.2 0 _ rfl).1;obtain ⟨y0,y1,y2,y3,y4,y5,y6,y7,y8⟩:=bwb9 ((HS2.1.mb.at 0 rfl).1);have lt1:=(HS2.1.mb.at 1 rfl).1.1;have hBW:B<=W2.heap.size:=by have:=(hrow.lt g rfl);omega
 have hw9:IntKind.i64.wrap (nx+1)=nx+1:=IntWalk.i64_in _ ⟨by omega,by omega⟩;go_region_law ((refine step_append_lies _ (by rfl) _ _ _ (by rfl) B 90 i0 _ 9 96 Tryz.underlying35 hin hz0 hz1 hz2 rfl (by omega) _ _ _ (by rfl) ((hrow.alloc _).drew) ⟨W2.heap.size,0,none⟩ 1 1 [.int .i64 nx,.int .i64 parent,.string name,.bool dir,.int .i64 schema,.int .i64 quota,.int .i64 ln,.slice none 0 0,.int .i64 writer] (by rfl) (by rfl) (World.news_of_block (cs:=#[.int .i64 nx,.int .i64 parent,.string name,.bool dir,.int .i64 schema,.int .i64 quota,.int .i64 ln,.slice none 0 0,.int .i64 writer]) (t:=90) (fr:=(0,0)) (heap_alloc_new W2 _)) (by simp [Value.oneCell']) (by omega) (by unfold maxLen;omega) (by omega) (by simp;omega) (W2.heap.size+1) (by simp) ?_;intro gg cap1 w5 hown1 hgrow hat hlt';have HS5:=zS (HS2.1.snoc (r:=⟨⟨nx,parent,name,dir,schema,quota,ln,[],writer⟩,none,0⟩) rfl rfl rfl hown1 hgrow hat);obtain ⟨vc1,vf1⟩:=(HS5.1.mb.at 1 rfl).1.2 0 _ rfl))
 all_goals
  go_upto_region 3 with fail;refine qaa (fun V=>SS w0 V ((xb,[.int .i64 nx,.int .i64 parent,.string name,.bool dir,.int .i64 schema,.int .i64 quota,.int .i64 ln,.slice none 0 0,.int .i64 writer])::(tb,[.slice (some ⟨gg,0,none⟩) (n+1) cap1,.int .i64 nx])::L) B (some ⟨gg,0,none⟩) (n+1) cap1 (rs++[(⟨⟨nx,parent,name,dir,schema,quota,ln,[],writer⟩,none,0⟩:NR)])) (HS5.1.setBox 1 rfl 0 (.slice (some ⟨gg,0,none⟩) (n+1) cap1) (by simp)) ?_;intro V6 hS6;have HS6:=zS hS6;clear hS6 hown1 hgrow hat hlt' vc1 vf1 HS5 n0 y0 y1 y2 y3 y4 y5 y6 y7 y8 hrow lt1 HS2;obtain ⟨m1,mf1⟩:=(HS6.1.mb.at 1 rfl).1.2 1 _ rfl;go_wp2_with fail;refine qad (fun w9=>SS w0 w9 ((tb,[.slice (some ⟨gg,0,none⟩) (n+1) cap1,.int .i64 (nx+1)])::L) B (some ⟨gg,0,none⟩) (n+1) cap1 (rs++[(⟨⟨nx,parent,name,dir,schema,quota,ln,[],writer⟩,none,0⟩:NR)])) ((HS6.1.setBox 1 rfl 1 (.int .i64 (nx+1)) (by simp)).less) ?_;intro w9 h9;refine bodyPost_end (v:=.tuple #[]) (by simp [results,Tryz.results246,go_sem]) rfl ⟨rfl,gg,cap1,h9⟩
theorem chMake (h:SS w0 W ((tb,[.slice (some ⟨g,0,none⟩) n cap,.int .i64 nx])::L) B (some ⟨g,0,none⟩) n cap rs) (hk:rs[k]?=some r) (hn:n<=1000) (hnx:0<=nx/\nx<=1000000) (path:ByteArray) (gr:Int) :
  Calls Tryz.prog 245 #[.agg #[.string path,.string (qab path).1,.string (qab path).2.1],.pointer (some ⟨tb,0,none⟩),.pointer (some ⟨g,k*9,none⟩),.int .i64 gr] W fun e w'=>e = .returned (.tuple #[])/\∃ gg cap1,SS w0 w' ((tb,[.slice (some ⟨gg,0,none⟩) (n+1) cap1,.int .i64 (nx+1)])::L) B (some ⟨gg,0,none⟩) (n+1) cap1 (rs++[(⟨⟨nx,r.nd.id,(qab path).2.1,true,0,0,0,[],0⟩,none,0⟩:NR)]):=by
 generalize (qab path).1=up;generalize (qab path).2.1=nm;have c0:=(h.cell hk 0 _ rfl).1;obtain ⟨pid,hpid⟩:∃ pid,pid=r.nd.id:=⟨_,rfl⟩;have HS:=zS h;have HC:Sh (∀ W',Below W.heap.size W W'->W'.cell? ⟨g,k*9,none⟩=some (.int .i64 pid)):=⟨fun W' hb=>by rw [hpid];exact (hb.cell (p:=⟨g,k*9,none⟩) (h.nb.row_lt ⟨g,0,none⟩ rfl)).trans c0⟩;rw [<-hpid];clear h hk c0 hpid;go_enter Tryz.func245,Tryz.ntmps245;go_upto_region 1 with fail;obtain ⟨rb,hrb⟩:∃ rb,rb=W.heap.size:=⟨_,rfl⟩;refine qaa (fun V=>SS w0 V ((rb,[.string path,.string up,.string nm])::(tb,[.slice (some ⟨g,0,none⟩) n cap,.int .i64 nx])::L) B (some ⟨g,0,none⟩) n cap rs/\Below W.heap.size W V) ⟨by rw [hrb];exact HS.1.new #[.string path,.string up,.string nm] 177,zB.alloc zL _⟩ ?_;rintro W1 ⟨hS1,hb1⟩;have HS1:=zS hS1;have HB1:=zS hb1;rw [<-hrb];clear hS1 hb1 hrb HS
 have HLE:Sh (∀ x,Later W1.drew x->x.cell? ⟨g,k*9,none⟩=some (.int .i64 pid)/\x.cell? ⟨rb,2,none⟩=some (.string nm)/\x.cell? ⟨tb,0,none⟩=some (.slice (some ⟨g,0,none⟩) n cap)/\x.cell? ⟨tb,1,none⟩=some (.int .i64 nx)):=⟨fun x hx=>by
  have hb:Below W1.heap.size W1 x:=Below.trans zD hx;have M:=HS1.1.mb.below hb
  exact ⟨HC.1 x (HB1.1.trans (hb.mono HB1.1.size)),((M.at 0 rfl).1.2 2 _ rfl).1,((M.at 1 rfl).1.2 0 _ rfl).1,((M.at 1 rfl).1.2 1 _ rfl).1⟩⟩
 have HBX:Sh (∀ x,Later W1.drew x->Below W.heap.size W x):=⟨fun x hx=>HB1.1.trans ((Below.trans zD hx:Below W1.heap.size W1 x).mono HB1.1.size)⟩;refine qas 9 (by kernel_rfl) ?_;refine wpK_v 0 rfl (fun x hx=>by obtain ⟨d0,d1,d2,d3⟩:=HLE.1 x hx;go_simp;try with_reducible rfl) ?_
 try simp only [Act.put,qA,qB,qC]
 refine wpK_v 1 rfl (fun x hx=>by obtain ⟨d0,d1,d2,d3⟩:=HLE.1 x hx;go_simp;try with_reducible rfl) ?_
 try simp only [Act.put,qA,qB,qC]
 refine wpK_v 2 rfl (fun x hx=>by obtain ⟨d0,d1,d2,d3⟩:=HLE.1 x hx;go_simp;try with_reducible rfl) ?_
 try simp only [Act.put,qA,qB,qC]
 refine wpK_v 3 rfl (fun x hx=>by obtain ⟨d0,d1,d2,d3⟩:=HLE.1 x hx;go_simp;try with_reducible rfl) ?_
 try simp only [Act.put,qA,qB,qC]
 refine wpK_v 4 rfl (fun x hx=>by obtain ⟨d0,d1,d2,d3⟩:=HLE.1 x hx;go_simp;try with_reducible rfl) ?_
 try simp only [Act.put,qA,qB,qC]
 refine wpK_v 5 rfl (fun x hx=>by obtain ⟨d0,d1,d2,d3⟩:=HLE.1 x hx;go_simp;try with_reducible rfl) ?_
 try simp only [Act.put,qA,qB,qC]
 refine wpK_v 6 rfl (fun x hx=>by obtain ⟨d0,d1,d2,d3⟩:=HLE.1 x hx;go_simp;try with_reducible rfl) ?_
 try simp only [Act.put,qA,qB,qC]
 refine wpK_v 7 rfl (fun x hx=>by obtain ⟨d0,d1,d2,d3⟩:=HLE.1 x hx;go_simp;try with_reducible rfl) ?_
 try simp only [Act.put,qA,qB,qC]
 refine wpK_v 8 rfl (fun x hx=>by obtain ⟨d0,d1,d2,d3⟩:=HLE.1 x hx;go_simp;try with_reducible rfl) ?_
 try simp only [Act.put,qA,qB,qC]
 refine qde (by kernel_rfl) ?_;intro y hy;have HSY:=zS (HS1.1.below (Below.trans zD hy)).less;refine qms (f:=246) (args:=#[.pointer (some ⟨tb,0,none⟩),.agg #[.int .i64 0,.int .i64 pid,.string nm,.bool true,.int .i64 0,.int .i64 0,.int .i64 0,.slice none 0 0,.int .i64 0]]) (i:=9) (by kernel_rfl) rfl (by rfl) (by go_simp) (by kernel_rfl) ?_;refine (qjt HSY.1 hn hnx pid nm true 0 0 0 0).mono ?_;rintro e z ⟨rfl,gg,cap1,h9⟩;refine ⟨_,rfl,?_⟩;have H9:=zS h9;clear h9 hy HLE HBX HS1 HB1 HC
 try simp only [Act.put,qA,qB,qC]
 go_wp2_with fail;refine qad (fun w9=>SS w0 w9 ((tb,[.slice (some ⟨gg,0,none⟩) (n+1) cap1,.int .i64 (nx+1)])::L) B (some ⟨gg,0,none⟩) (n+1) cap1 (rs++[(⟨⟨nx,pid,nm,true,0,0,0,[],0⟩,none,0⟩:NR)])) H9.1 ?_;intro w9 h9;refine bodyPost_end (v:=.tuple #[]) (by simp [results,Tryz.results245,go_sem]) rfl ⟨rfl,gg,cap1,h9⟩
theorem chCreate (h:SS w0 W ((tb,[.slice (some ⟨g,0,none⟩) n cap,.int .i64 nx])::L) B (some ⟨g,0,none⟩) n cap rs) (hk:rs[k]?=some r) (hn:n<=1000) (hnx:0<=nx/\nx<=1000000) (hok:qae T=true) (hr:nds rs=T.nodes) (hx:nx=T.next) (hid:(Lit.int .i64 r.nd.id).wf=true) (path:ByteArray) (who:Int) (gr:Int) :
  Calls Tryz.prog 247 #[.agg #[.string path,.string (qab path).1,.string (qab path).2.1,.int .i64 who],.pointer (some ⟨tb,0,none⟩),.pointer (some ⟨g,k*9,none⟩),.int .i64 gr] W fun e w'=>e = .returned (.tuple #[])/\∃ gg cap1,SS w0 w' ((tb,[.slice (some ⟨gg,0,none⟩) (n+1) cap1,.int .i64 (nx+1)])::L) B (some ⟨gg,0,none⟩) (n+1) cap1 (rs++[(⟨⟨nx,r.nd.id,(qab path).2.1,false,qbo T r.nd.id,0,0,[],who⟩,none,0⟩:NR)]):=by
 have HSA:=zS (fun W' (hb:Below W.heap.size W W')=>by
  obtain ⟨lo,hi,q⟩:=((h.see hok hr hx).below hb).see
  exact implSchemaAt W' _ T lo hi r.nd.id q (qgg hok) (qgr hok) hid)
 generalize qbo T r.nd.id=sch at HSA ⊢;generalize (qab path).1=up;generalize (qab path).2.1=nm;have c0:=(h.cell hk 0 _ rfl).1;obtain ⟨pid,hpid⟩:∃ pid,pid=r.nd.id:=⟨_,rfl⟩;have HS:=zS h;have HC:Sh (∀ W',Below W.heap.size W W'->W'.cell? ⟨g,k*9,none⟩=some (.int .i64 pid)):=⟨fun W' hb=>by rw [hpid];exact (hb.cell (p:=⟨g,k*9,none⟩) (h.nb.row_lt ⟨g,0,none⟩ rfl)).trans c0⟩;rw [<-hpid] at HSA ⊢;clear h hk c0 hpid hok hr hx hid;go_enter Tryz.func247,Tryz.ntmps247;go_upto_region 1 with fail;obtain ⟨rb,hrb⟩:∃ rb,rb=W.heap.size:=⟨_,rfl⟩;refine qaa (fun V=>SS w0 V ((rb,[.string path,.string up,.string nm,.int .i64 who])::(tb,[.slice (some ⟨g,0,none⟩) n cap,.int .i64 nx])::L) B (some ⟨g,0,none⟩) n cap rs/\Below W.heap.size W V) ⟨by rw [hrb];exact HS.1.new #[.string path,.string up,.string nm,.int .i64 who] 179,zB.alloc zL _⟩ ?_;rintro W1 ⟨hS1,hb1⟩;have HS1:=zS hS1;have HB1:=zS hb1;rw [<-hrb];clear hS1 hb1 hrb HS
 have HLE:Sh (∀ x,Later W1.drew x->x.cell? ⟨g,k*9,none⟩=some (.int .i64 pid)/\x.cell? ⟨rb,2,none⟩=some (.string nm)/\x.cell? ⟨tb,0,none⟩=some (.slice (some ⟨g,0,none⟩) n cap)/\x.cell? ⟨tb,1,none⟩=some (.int .i64 nx)/\x.cell? ⟨rb,3,none⟩=some (.int .i64 who)):=⟨fun x hx=>by
  have hb:Below W1.heap.size W1 x:=Below.trans zD hx;have M:=HS1.1.mb.below hb
  exact ⟨HC.1 x (HB1.1.trans (hb.mono HB1.1.size)),((M.at 0 rfl).1.2 2 _ rfl).1,((M.at 1 rfl).1.2 0 _ rfl).1,((M.at 1 rfl).1.2 1 _ rfl).1,((M.at 0 rfl).1.2 3 _ rfl).1⟩⟩
 have HBX:Sh (∀ x,Later W1.drew x->Below W.heap.size W x):=⟨fun x hx=>HB1.1.trans ((Below.trans zD hx:Below W1.heap.size W1 x).mono HB1.1.size)⟩;refine qas 19 (by kernel_rfl) ?_;refine wpK_v 0 rfl (fun x hx=>by obtain ⟨d0,d1,d2,d3,d4⟩:=HLE.1 x hx;go_simp;try with_reducible rfl) ?_
 try simp only [Act.put,qA,qB,qC]
 refine wpK_v 1 rfl (fun x hx=>by obtain ⟨d0,d1,d2,d3,d4⟩:=HLE.1 x hx;go_simp;try with_reducible rfl) ?_
 try simp only [Act.put,qA,qB,qC]
 refine wpK_v 2 rfl (fun x hx=>by obtain ⟨d0,d1,d2,d3,d4⟩:=HLE.1 x hx;go_simp;try with_reducible rfl) ?_
 try simp only [Act.put,qA,qB,qC]
 refine wpK_v 3 rfl (fun x hx=>by obtain ⟨d0,d1,d2,d3,d4⟩:=HLE.1 x hx;go_simp;try with_reducible rfl) ?_
 try simp only [Act.put,qA,qB,qC]
 refine wpK_v 4 rfl (fun x hx=>by obtain ⟨d0,d1,d2,d3,d4⟩:=HLE.1 x hx;go_simp;try with_reducible rfl) ?_
 try simp only [Act.put,qA,qB,qC]
 refine wpK_v 5 rfl (fun x hx=>by obtain ⟨d0,d1,d2,d3,d4⟩:=HLE.1 x hx;go_simp;try with_reducible rfl) ?_
 try simp only [Act.put,qA,qB,qC]
 refine wpK_v 6 rfl (fun x hx=>by obtain ⟨d0,d1,d2,d3,d4⟩:=HLE.1 x hx;go_simp;try with_reducible rfl) ?_
 try simp only [Act.put,qA,qB,qC]
 refine wpK_v 7 rfl (fun x hx=>by obtain ⟨d0,d1,d2,d3,d4⟩:=HLE.1 x hx;go_simp;try with_reducible rfl) ?_
 try simp only [Act.put,qA,qB,qC]
 refine wpK_v 8 rfl (fun x hx=>by obtain ⟨d0,d1,d2,d3,d4⟩:=HLE.1 x hx;go_simp;try with_reducible rfl) ?_
 try simp only [Act.put,qA,qB,qC]
 refine wpK_v 9 rfl (fun x hx=>by obtain ⟨d0,d1,d2,d3,d4⟩:=HLE.1 x hx;go_simp;try with_reducible rfl) ?_
 try simp only [Act.put,qA,qB,qC]
 refine wpK_v 10 rfl (fun x hx=>by obtain ⟨d0,d1,d2,d3,d4⟩:=HLE.1 x hx;go_simp;try with_reducible rfl) ?_
 try simp only [Act.put,qA,qB,qC]
 refine wpK_v 11 rfl (fun x hx=>by obtain ⟨d0,d1,d2,d3,d4⟩:=HLE.1 x hx;go_simp;try with_reducible rfl) ?_
 try simp only [Act.put,qA,qB,qC]
 refine wpK_v 12 rfl (fun x hx=>by obtain ⟨d0,d1,d2,d3,d4⟩:=HLE.1 x hx;go_simp;try with_reducible rfl) ?_
 try simp only [Act.put,qA,qB,qC]
 refine wpK_v 13 rfl (fun x hx=>by obtain ⟨d0,d1,d2,d3,d4⟩:=HLE.1 x hx;go_simp;try with_reducible rfl) ?_
 try simp only [Act.put,qA,qB,qC]
 refine wpK_v 14 rfl (fun x hx=>by obtain ⟨d0,d1,d2,d3,d4⟩:=HLE.1 x hx;go_simp;try with_reducible rfl) ?_
 try simp only [Act.put,qA,qB,qC]
 refine qem (i:=15) (v:=.int .i64 sch) (f:=248) (args:=#[.agg #[.slice (some ⟨g,0,none⟩) n cap,.int .i64 nx],.int .i64 pid]) rfl (by kernel_rfl) (by kernel_rfl) (by kernel_rfl) (by kernel_rfl) (fun _ _ _ h=>h) (by rfl) ?hya15 (fun x hx=>HSA.1 x (HBX.1 x hx)) ?resta15
 case hya15=>(intro x hx;obtain ⟨d0,d1,d2,d3,d4⟩:=HLE.1 x hx;go_simp;try with_reducible rfl)
 try simp only [Act.put,qA,qB,qC]
 refine wpK_v 16 rfl (fun x hx=>by obtain ⟨d0,d1,d2,d3,d4⟩:=HLE.1 x hx;go_simp;try with_reducible rfl) ?_
 try simp only [Act.put,qA,qB,qC]
 refine wpK_v 17 rfl (fun x hx=>by obtain ⟨d0,d1,d2,d3,d4⟩:=HLE.1 x hx;go_simp;try with_reducible rfl) ?_
 try simp only [Act.put,qA,qB,qC]
 refine wpK_v 18 rfl (fun x hx=>by obtain ⟨d0,d1,d2,d3,d4⟩:=HLE.1 x hx;go_simp;try with_reducible rfl) ?_
 try simp only [Act.put,qA,qB,qC]
 refine qde (by kernel_rfl) ?_;intro y hy;have HSY:=zS (HS1.1.below (Below.trans zD hy)).less;refine qms (f:=246) (args:=#[.pointer (some ⟨tb,0,none⟩),.agg #[.int .i64 0,.int .i64 pid,.string nm,.bool false,.int .i64 sch,.int .i64 0,.int .i64 0,.slice none 0 0,.int .i64 who]]) (i:=19) (by kernel_rfl) rfl (by rfl) (by go_simp) (by kernel_rfl) ?_;refine (qjt HSY.1 hn hnx pid nm false sch 0 0 who).mono ?_;rintro e z ⟨rfl,gg,cap1,h9⟩;refine ⟨_,rfl,?_⟩;have H9:=zS h9;clear h9 hy HLE HBX HS1 HB1 HC
 try simp only [Act.put,qA,qB,qC]
 go_wp2_with fail;refine qad (fun w9=>SS w0 w9 ((tb,[.slice (some ⟨gg,0,none⟩) (n+1) cap1,.int .i64 (nx+1)])::L) B (some ⟨gg,0,none⟩) (n+1) cap1 (rs++[(⟨⟨nx,pid,nm,false,sch,0,0,[],who⟩,none,0⟩:NR)])) H9.1 ?_;intro w9 h9;refine bodyPost_end (v:=.tuple #[]) (by simp [results,Tryz.results247,go_sem]) rfl ⟨rfl,gg,cap1,h9⟩
theorem SS.swap {p q:Nat × List Value} (h:SS w0 W (p::q::L) B a n cap rs):SS w0 W (q::p::L) B a n cap rs:=by
 have hm:∀ x,x ∈ q::p::L->x ∈ p::q::L:=fun x hx=>by
  simp only [List.mem_cons] at hx ⊢;rcases hx with h | h | h
  ·exact .inr (.inl h)
  ·exact .inl h
  ·exact .inr (.inr h)
 obtain ⟨d1,d2⟩:=List.pairwise_cons.1 h.mb.dist;obtain ⟨d3,d4⟩:=List.pairwise_cons.1 d2;exact ⟨⟨fun x hx=>h.mb.box x (hm x hx),List.pairwise_cons.2 ⟨fun x hx=>(List.mem_cons.1 hx).elim (fun e=>by rw [e];exact fun e2=>d1 q (by simp) e2.symm) (fun hx=>d3 x hx),List.pairwise_cons.2 ⟨fun x hx=>d1 x (by simp [hx]),d4⟩⟩,h.mb.bel⟩,h.nb,h.len,fun x hx=>h.ap x (hm x hx),h.lo⟩
theorem chDrop (h:SS w0 W ((tb,[.slice (some ⟨g,0,none⟩) n cap,.int .i64 nx])::L) B (some ⟨g,0,none⟩) n cap rs) (hk:rs[k]?=some r) (hn:n<=1000) (hok:qae T=true) (hr:nds rs=T.nodes) (hx:nx=T.next) (hne:qap T r.nd.id ≠ []) (path:ByteArray) (gr:Int) :
  Calls Tryz.prog 250 #[.agg #[.string path],.pointer (some ⟨tb,0,none⟩),.pointer (some ⟨g,k*9,none⟩),.int .i64 gr] W fun e w'=>e = .returned (.tuple #[])/\∃ m,SS w0 w' ((tb,[.slice (some ⟨g,0,none⟩) m cap,.int .i64 nx])::L) B (some ⟨g,0,none⟩) m cap (rs.filter (fun q=>!(qap T r.nd.id).contains q.nd.id)):=by
 have HBL:=zS (fun W' (hb:Below W.heap.size W W')=>((h.see hok hr hx).below hb).blw r.nd.id);have hXl:=qfd T r.nd.id;have c0:=(h.cell hk 0 _ rfl).1;obtain ⟨id,hid⟩:∃ id,id=r.nd.id:=⟨_,rfl⟩;have HS:=zS h;have HC:Sh (∀ W',Below W.heap.size W W'->W'.cell? ⟨g,k*9,none⟩=some (.int .i64 id)):=⟨fun W' hb=>by rw [hid];exact (hb.cell (p:=⟨g,k*9,none⟩) (h.nb.row_lt ⟨g,0,none⟩ rfl)).trans c0⟩;rw [<-hid] at HBL hXl hne ⊢;unfold IPost at HBL;generalize qap T id=X at HBL hXl hne ⊢;have HNE:=zS hne;clear h hk c0 hid hok hr hx hne;go_enter Tryz.func250,Tryz.ntmps250;go_upto_region 1 with fail;obtain ⟨rb,hrb⟩:∃ rb,rb=W.heap.size:=⟨_,rfl⟩;refine qaa (fun V=>SS w0 V ((rb,[.string path])::(tb,[.slice (some ⟨g,0,none⟩) n cap,.int .i64 nx])::L) B (some ⟨g,0,none⟩) n cap rs/\Below W.heap.size W V) ⟨by rw [hrb];exact HS.1.new #[.string path] 183,zB.alloc zL _⟩ ?_;rintro W1 ⟨hS1,hb1⟩;have HS1:=zS hS1;have HB1:=zS hb1;rw [<-hrb];clear hS1 hb1 hrb HS
 have HLE:Sh (∀ x,Later W1.drew x->x.cell? ⟨g,k*9,none⟩=some (.int .i64 id)/\x.cell? ⟨tb,0,none⟩=some (.slice (some ⟨g,0,none⟩) n cap)/\x.cell? ⟨tb,1,none⟩=some (.int .i64 nx)):=⟨fun x hx=>by
  have hb:Below W1.heap.size W1 x:=Below.trans zD hx;have M:=HS1.1.mb.below hb
  exact ⟨HC.1 x (HB1.1.trans (hb.mono HB1.1.size)),((M.at 1 rfl).1.2 0 _ rfl).1,((M.at 1 rfl).1.2 1 _ rfl).1⟩⟩
 have HBX:Sh (∀ x,Later W1.drew x->Below W.heap.size W x):=⟨fun x hx=>HB1.1.trans ((Below.trans zD hx:Below W1.heap.size W1 x).mono HB1.1.size)⟩;have HSX:Sh (∀ x,Later W1.drew x->SS w0 x ((rb,[.string path])::(tb,[.slice (some ⟨g,0,none⟩) n cap,.int .i64 nx])::L) B (some ⟨g,0,none⟩) n cap rs):=⟨fun x hx=>HS1.1.below (Below.trans zD hx)⟩;obtain ⟨m,hm⟩:∃ m,m=X.length:=⟨_,rfl⟩;have HML:=zS hm;refine qas 9 (by kernel_rfl) ?_;refine wpK_v 0 rfl (fun x hx=>by obtain ⟨d0,d1,d2⟩:=HLE.1 x hx;go_simp;try with_reducible rfl) ?_
 try simp only [Act.put,qA,qB,qC]
 refine wpK_v 1 rfl (fun x hx=>by obtain ⟨d0,d1,d2⟩:=HLE.1 x hx;go_simp;try with_reducible rfl) ?_
 try simp only [Act.put,qA,qB,qC]
 refine wpK_v 2 rfl (fun x hx=>by obtain ⟨d0,d1,d2⟩:=HLE.1 x hx;go_simp;try with_reducible rfl) ?_
 try simp only [Act.put,qA,qB,qC]
 refine wpK_v 3 rfl (fun x hx=>by obtain ⟨d0,d1,d2⟩:=HLE.1 x hx;go_simp;try with_reducible rfl) ?_
 try simp only [Act.put,qA,qB,qC]
 refine wpK_v 4 rfl (fun x hx=>by obtain ⟨d0,d1,d2⟩:=HLE.1 x hx;go_simp;try with_reducible rfl) ?_
 try simp only [Act.put,qA,qB,qC]
 refine wpK_v 5 rfl (fun x hx=>by obtain ⟨d0,d1,d2⟩:=HLE.1 x hx;go_simp;try with_reducible rfl) ?_
 try simp only [Act.put,qA,qB,qC]
 refine wpK_v 6 rfl (fun x hx=>by obtain ⟨d0,d1,d2⟩:=HLE.1 x hx;go_simp;try with_reducible rfl) ?_
 try simp only [Act.put,qA,qB,qC]
 refine qkc (f:=160) (args:=#[.agg #[.slice (some ⟨g,0,none⟩) n cap,.int .i64 nx],.int .i64 id]) (C:=#[.slice none 0 0]) (t:=140) (i:=7) (j:=8) (by kernel_rfl) rfl rfl (by rfl) (by rfl) (fun x hx=>by go_simp) (fun x hx=>by kernel_rfl) (fun x hx=>(HBL.1 x (HBX.1 x hx)).mono ?_) (fun x hx=>?_)
 ·rintro e y ⟨bv,rfl,hba,hby⟩
  refine ⟨_,rfl,hby,?_⟩;obtain ⟨ba,c,rfl,-,hor⟩:=hba;obtain ⟨ga,rfl,hga1,hga2,hwa⟩:=hor.resolve_left HNE.1;have HY:=zS ((HSX.1 x hx).add hby hwa hga1);rw [<-hm];clear hx hby hor hga1 hga2 hwa
  try simp only [Act.put,qA,qB,qC]
  refine qpq (i:=8) (by kernel_rfl) rfl (by rfl) (fun x2 hx2=>⟨.pointer (some ⟨x2.heap.size,0,none⟩),x2.alloc (.cells #[.slice none 0 0] 140),by kernel_rfl,zB.alloc zL _,?_⟩);have HY2:=zS ((HY.1.below hx2).new #[.slice none 0 0] 140);obtain ⟨gb,hgb⟩:∃ gb,gb=x2.heap.size:=⟨_,rfl⟩;rw [<-hgb] at HY2 ⊢;clear hx2 hgb
  try simp only [Act.put,qA,qB,qC]
  refine qde (by kernel_rfl) ?_;intro x3 hx3;have HY3:=zS (HY2.1.below hx3);obtain ⟨q0,qf0⟩:=(HY3.1.mb.at 0 rfl).1.2 0 _ rfl;refine qex (y:=x3.setCell ⟨gb,0,none⟩ (.slice (some ⟨ga,0,none⟩) m c)) (i:=9) (by kernel_rfl) rfl (by rfl) (by go_simp) (by kernel_rfl) ?_;have HZ:Sh (SS w0 (x3.setCell ⟨gb,0,none⟩ (.slice (some ⟨ga,0,none⟩) m c)) ((gb,[.slice (some ⟨ga,0,none⟩) m c])::(ga,ics X)::(rb,[.string path])::(tb,[.slice (some ⟨g,0,none⟩) n cap,.int .i64 nx])::L) B (some ⟨g,0,none⟩) n cap rs):=⟨HY3.1.setBox 0 rfl 0 (.slice (some ⟨ga,0,none⟩) m c) (by simp)⟩;generalize x3.setCell ⟨gb,0,none⟩ (.slice (some ⟨ga,0,none⟩) m c)=Z at HZ ⊢;clear hx3 q0 qf0 HY3 HY2 HY hm HLE HBX HSX;simp only [Act.put];go_upto_region 2 with fail;have n0:=((HZ.1.mb.at 3 rfl).1.2 0 _ rfl).1;obtain ⟨z0,zf0⟩:=(HZ.1.mb.at 3 rfl).1.2 0 _ rfl
  have HDEL:=zS (qlj HZ.1 (fun nd=>X.contains nd.id) (.pointer (some ⟨gb,0,none⟩)) hn (fun W' M r=>by
   have h1:=(M.at 0 rfl).1;have h2:=((M.at 1 rfl).1).crow;have h3:=(h1.2 0 _ rfl).1;rw [HML.1] at h3
   exact qnw r gb (some ⟨ga,0,none⟩) c X W' h3 h1.1 h2 (by omega)))
  go_wp2_with (go_at_call 251;refine HDEL.1.mono ?_;rintro e w8 ⟨m8,rfl,h8⟩;have H8:=zS h8;obtain ⟨v0,vf0⟩:=(H8.1.mb.at 3 rfl).1.2 0 _ rfl;clear h8 n0 z0 zf0);refine qad (fun w9=>SS w0 w9 ((tb,[.slice (some ⟨g,0,none⟩) m8 cap,.int .i64 nx])::L) B (some ⟨g,0,none⟩) m8 cap (rs.filter (fun r=>!X.contains r.nd.id))) ((H8.1.setBox 3 rfl 0 (.slice (some ⟨g,0,none⟩) m8 cap) (by simp)).less.less.less) ?_;intro w9 h9;refine bodyPost_end (v:=.tuple #[]) (by simp [results,Tryz.results250,go_sem]) rfl ⟨rfl,m8,h9⟩
 ·have HY:=zS ((HSX.1 x hx).new #[.slice none 0 0] 140)
  have hbxx:Sh (Below W.heap.size W (x.alloc (.cells #[.slice none 0 0] 140))):=⟨(HBX.1 x hx).alloc (HBX.1 x hx).size _⟩;have HLY:Sh (∀ z,Later (x.alloc (.cells #[.slice none 0 0] 140)) z->z.cell? ⟨g,k*9,none⟩=some (.int .i64 id)/\z.cell? ⟨tb,0,none⟩=some (.slice (some ⟨g,0,none⟩) n cap)/\z.cell? ⟨tb,1,none⟩=some (.int .i64 nx)):=⟨fun z hz=>HLE.1 z (hx.trans (Below.trans ((Below.refl x.heap.size x).alloc zL _) (Below.mono hz (by simp))))⟩;obtain ⟨gb,hgb⟩:∃ gb,gb=x.heap.size:=⟨_,rfl⟩;rw [<-hgb] at HY ⊢;generalize x.alloc (.cells #[.slice none 0 0] 140)=x2 at HY hbxx HLY ⊢;clear hgb hx
  try simp only [Act.put,qA,qB,qC]
  refine qeb (f:=160) (args:=#[.agg #[.slice (some ⟨g,0,none⟩) n cap,.int .i64 nx],.int .i64 id]) (i:=7) (by kernel_rfl) rfl (by rfl) (fun x3 hx3=>by go_simp) (fun x3 hx3=>(HBL.1 x3 (hbxx.1.trans (Below.mono hx3 hbxx.1.size))).mono ?_);rintro e y ⟨bv,rfl,hba,hby⟩;refine ⟨_,rfl,hby,?_⟩;obtain ⟨ba,c,rfl,-,hor⟩:=hba;obtain ⟨ga,rfl,hga1,hga2,hwa⟩:=hor.resolve_left HNE.1;have HY2:=zS ((HY.1.below hx3).add hby hwa hga1).swap;rw [<-hm];clear hx3 hby hor hga1 hga2 hwa HY
  try simp only [Act.put,qA,qB,qC]
  refine qde (by kernel_rfl) ?_;intro x4 hx4;have HY3:=zS (HY2.1.below hx4);obtain ⟨q0,qf0⟩:=(HY3.1.mb.at 0 rfl).1.2 0 _ rfl;refine qex (y:=x4.setCell ⟨gb,0,none⟩ (.slice (some ⟨ga,0,none⟩) m c)) (i:=9) (by kernel_rfl) rfl (by rfl) (by go_simp) (by kernel_rfl) ?_;have HZ:Sh (SS w0 (x4.setCell ⟨gb,0,none⟩ (.slice (some ⟨ga,0,none⟩) m c)) ((gb,[.slice (some ⟨ga,0,none⟩) m c])::(ga,ics X)::(rb,[.string path])::(tb,[.slice (some ⟨g,0,none⟩) n cap,.int .i64 nx])::L) B (some ⟨g,0,none⟩) n cap rs):=⟨HY3.1.setBox 0 rfl 0 (.slice (some ⟨ga,0,none⟩) m c) (by simp)⟩;generalize x4.setCell ⟨gb,0,none⟩ (.slice (some ⟨ga,0,none⟩) m c)=Z at HZ ⊢;clear hx4 q0 qf0 HY3 HY2 hm HLE HBX HSX hbxx HLY;simp only [Act.put];go_upto_region 2 with fail;have n0:=((HZ.1.mb.at 3 rfl).1.2 0 _ rfl).1;obtain ⟨z0,zf0⟩:=(HZ.1.mb.at 3 rfl).1.2 0 _ rfl
  have HDEL:=zS (qlj HZ.1 (fun nd=>X.contains nd.id) (.pointer (some ⟨gb,0,none⟩)) hn (fun W' M r=>by
   have h1:=(M.at 0 rfl).1;have h2:=((M.at 1 rfl).1).crow;have h3:=(h1.2 0 _ rfl).1;rw [HML.1] at h3
   exact qnw r gb (some ⟨ga,0,none⟩) c X W' h3 h1.1 h2 (by omega)))
  go_wp2_with (go_at_call 251;refine HDEL.1.mono ?_;rintro e w8 ⟨m8,rfl,h8⟩;have H8:=zS h8;obtain ⟨v0,vf0⟩:=(H8.1.mb.at 3 rfl).1.2 0 _ rfl;clear h8 n0 z0 zf0);refine qad (fun w9=>SS w0 w9 ((tb,[.slice (some ⟨g,0,none⟩) m8 cap,.int .i64 nx])::L) B (some ⟨g,0,none⟩) m8 cap (rs.filter (fun r=>!X.contains r.nd.id))) ((H8.1.setBox 3 rfl 0 (.slice (some ⟨g,0,none⟩) m8 cap) (by simp)).less.less.less) ?_;intro w9 h9;refine bodyPost_end (v:=.tuple #[]) (by simp [results,Tryz.results250,go_sem]) rfl ⟨rfl,m8,h9⟩
end
end Go.Proofs.YtackbhpgdohimaaGreatDoor
