/- Texts of ours, laid one behind the other: ImB, LtM, HasN, LtA, LtB, MuL, ClS, SpP, LtC, DiskT, ActA, ActM, ShA, ShB, ImE, ShC, ShD, SpA, ShE. -/
import Derived.Test.YtackbhpgdohimaaGreatDoorQk5
import Derived.Test.YtackbhpgdohimaaGreatDoorQk3
import Derived.Test.YtackbhpgdohimaaGreatDoorQk4
import Derived.Test.YtackbhpgdohimaaGreatDoorQk1
import Derived.Sort.Walk0
import Derived.Handy
import Derived.Test.YtackbhpgdohimaaGreatDoorRows
import Derived.Conc.MuLone
import Derived.KernelRfl
import Derived.Test.YtackbhpgdohimaaGreatDoorQkShf
import Derived.Deep.AppendLies
import Derived.Laws.MakeOwn
import Derived.Recover
import Derived.BigQuiet
import Derived.PlainAid
import Derived.OwnWalk
import Derived.Deep.RegionHeld3
import Derived.Deep.DrawnRows
import Derived.Maps.OwnSet
import Derived.Maps.RangeWalk
/- ImB: . -/
namespace Go.Proofs.YtackbhpgdohimaaGreatDoor
set_option maxRecDepth 100000
set_option maxHeartbeats 16000000
open Go.RowKit
attribute [local go_sem ↓] Go.wp_at_zero Go.wp_at_succ
section
variable {g:Nat} {w w':World}
theorem qcb {p:Addr} {v:Value} (h:w.cell? p=some v):p.block<w.heap.size:=by
 by_cases c:p.block<w.heap.size
 ·exact c
 ·exfalso
  unfold World.cell? at h;rw [Array.getElem?_eq_none (by omega)] at h;simp at h
def C3 (w:World) (g:Nat) (f:FM):Prop:=w.cell? ⟨g,0,none⟩=some (.string f.name)/\w.cell? ⟨g,1,none⟩=some (.string f.text)/\w.cell? ⟨g,2,none⟩=some (.int .i64 f.kept)
theorem C3.below {f:FM} (h:C3 w g f) (hb:Below w.heap.size w w'):C3 w' g f:=
 ⟨(hb.cell (p:=⟨g,0,none⟩) (qcb h.1)).trans h.1,(hb.cell (p:=⟨g,1,none⟩) (qcb h.2.1)).trans h.2.1,(hb.cell (p:=⟨g,2,none⟩) (qcb h.2.2)).trans h.2.2⟩
theorem C3.alloc {f:FM} (h:C3 w g f) (o:Obj):C3 (w.alloc o) g f:=h.below (zB.alloc zL o)
theorem C3.grown {f:FM} {row:Option Nat} (h:C3 w g f) (hg:w.grownBy w' row) (hr:row ≠ some g):C3 w' g f:=
 ⟨(cell_grown hg ⟨g,0,none⟩ (qcb h.1) hr).trans h.1,(cell_grown hg ⟨g,1,none⟩ (qcb h.2.1) hr).trans h.2.1,(cell_grown hg ⟨g,2,none⟩ (qcb h.2.2) hr).trans h.2.2⟩
theorem C3.new (w:World) (f:FM) (t:TypeId):C3 (w.alloc (.cells #[.string f.name,.string f.text,.int .i64 f.kept] t)) w.heap.size f:=by
 have h:=qac w #[.string f.name,.string f.text,.int .i64 f.kept] t;exact ⟨(h.2 0 _ rfl).1,(h.2 1 _ rfl).1,(h.2 2 _ rfl).1⟩
theorem qke {α:Type} (fs:List α) (k:Nat) (h:k<fs.length):fs.take (k+1)=fs.take k++[fs[k]]:=List.take_succ_eq_append_getElem h
theorem qip (a:Option Addr) (fs:List FM) (cap:Nat) (w:World) (hr:FRow w a fs) (hl:fs.length<=1048576) (hs:∀ f ∈ fs,f.name.size<=281474976710656/\f.text.size<=281474976710656) :
  Calls Tryz.prog 59 #[.slice a fs.length cap] w fun e w'=>MadeDisk fs w e w':=by
 obtain ⟨i0,hi,hz0,hz1,hz2⟩:=info_parts qfh;have HR:Hid (FRow w a fs):=hr;have HS:Hid (∀ f ∈ fs,f.name.size<=281474976710656/\f.text.size<=281474976710656):=hs;have HY0:Hid (WCells (w.alloc (.cells #[.slice none 0 0] 40)) w.heap.size [.slice none 0 0]):=qac w #[.slice none 0 0] 40;have HB0:Hid (Below w.heap.size w (w.alloc (.cells #[.slice none 0 0] 40))):=zB.alloc zL _;clear hr hs;go_enter Tryz.func59,Tryz.ntmps59;go_wp2_with (at_make;refine wpList_make_own _ rfl _ _ 38 rfl (w.heap.size+1) 150 i0 _ 3 Tryz.underlying38 hi hz0 hz1 .i64 .i64 _ fs.length rfl rfl (by omega) ?b2 ?b3 ?b4 ?_)
 case b2=>rw [hz2];omega
 case b3=>unfold maxLen;omega
 case b4=>simp
 intro wm hownm hgrm;have hbm:Below w.heap.size w wm:=HB0.out.grown hgrm (by simp) (fun j hj=>by simp at hj);have hym:WCells wm w.heap.size [.slice none 0 0]:=qbk HY0.out hgrm (by simp);have HYM:Sh (WCells wm w.heap.size [.slice none 0 0]):=⟨hym⟩;have HBM:Hid (Below w.heap.size w wm):=hbm;have HWM:Hid (wm.ownsRow (w.heap.size+1) 150 3 (.slice (some ⟨w.heap.size+1,0,none⟩) 0 fs.length) 0 []):=hownm;clear hgrm hbm hym hownm;go_wp2_with fail;go_loopw [3,11] (fun v i wr=>∃ (k:Nat),i = .int .i64 k/\k<=fs.length/\Sh (WCells wr w.heap.size [.slice none 0 0])/\wr.ownsRow (w.heap.size+1) 150 3 v k (fcs (fs.take k))/\Below w.heap.size w wr) (fun _ i _=>fs.length - (intOf i).toNat)
 case atStart=>exact ⟨0,rfl,Nat.zero_le _,HYM,by simpa [fcs] using HWM.out,HBM.out⟩
 case round =>
  clear HYM HBM HWM HY0 HB0;obtain ⟨k,rfl,hk,hy,hown,hb⟩:=hrel;have HB:Hid (Below w.heap.size w wr):=hb
  by_cases hlt:k<fs.length
  ·obtain ⟨b,off,rfl,lb,hc⟩:=FRow.at HR.out (by omega)
   obtain ⟨d0,d1,d2⟩:=hc k hlt;rw [<-hb.cell (p:=⟨b,off+k*3,none⟩) lb] at d0;rw [<-hb.cell (p:=⟨b,off+k*3+1,none⟩) lb] at d1;rw [<-hb.cell (p:=⟨b,off+k*3+2,none⟩) lb] at d2;have hsz:=HS.out fs[k] (List.getElem_mem hlt);have hstep:fcs (fs.take (k+1))=fcs (fs.take k)++[.string fs[k].name,.string fs[k].text,.int .i64 fs[k].kept]:=by rw [qke fs k hlt,qgi]
   obtain ⟨f,hfe⟩:∃ f,f=fs[k]:=⟨_,rfl⟩;rw [<-hfe] at d0 d1 d2 hsz hstep;obtain ⟨sz0,sz1⟩:=hsz;have HST:Hid (fcs (fs.take (k+1))=fcs (fs.take k)++[.string f.name,.string f.text,.int .i64 f.kept]):=hstep;have k0:(0:Int)<=(k:Int):=by omega
   have k1:(k:Int)<(fs.length:Int):=by omega
   have hws:w.heap.size<wr.heap.size:=hy.1.1;have nv:u3.ownBlock ≠ some wr.heap.size:=fun e=>by have:=(hown.lt _ e).2;omega
   have HC:=C3.new wr f 150;have hc3:Sh (C3 (wr.alloc (.cells #[.string f.name,.string f.text,.int .i64 f.kept] 150)) wr.heap.size f):=⟨HC⟩;clear hfe hc hb hstep HC;go_wp2_with fail;have tokA:True:=trivial;have tokB:True:=trivial
   go_region_held3 (fun w'=>w'.cell? ⟨wr.heap.size,0,none⟩=some (.string f.name)/\w'.cell? ⟨wr.heap.size,1,none⟩=some (.string f.text)/\w'.cell? ⟨wr.heap.size,2,none⟩=some (.int .i64 f.kept))
    (first | assumption | (exact hc3.1) | (exact C3.alloc (by assumption) _) | (exact C3.below (by assumption) hbB) | (exact C3.below (by assumption) hbA) | (exact C3.grown (by assumption) hgrow nv))
    (first
     | (go_at_call 103;have _t:=tokA;refine (qnv _ _ ?_).mono ?_;(first | exact sz0 | exact sz1);rintro e w6 ⟨rfl,hbA⟩;clear _t tokA)
     | (go_at_call 103;have _t:=tokB;refine (qnv _ _ ?_).mono ?_;(first | exact sz0 | exact sz1);rintro e w7 ⟨rfl,hbB⟩;clear _t tokB)
     | ((fail_if_success (have _t:=tokB));refine step_append_lies _ (by rfl) _ _ _ (by rfl) (w.heap.size+1) 150 i0 _ 3 40 Tryz.underlying38 hi hz0 hz1 hz2 rfl (by omega) _ _ _ (by rfl) ((qcy (qcy ((hown.alloc _).drew) hbA) hbB).alloc _) ⟨w7.heap.size,0,none⟩ 1 1 [.string f.name,.string f.text,.int .i64 f.kept] (by rfl) (by rfl) (World.news_of_block (cs:=#[.string f.name,.string f.text,.int .i64 f.kept]) (t:=150) (fr:=(0,0)) (heap_alloc_new w7 _)) (by simp [Value.oneCell']) (by omega) (by unfold maxLen;omega) (by omega) (by have h1:=hbA.size;have h2:=hbB.size;simp at h1 h2 ⊢;omega) (w7.heap.size+1) (by simp) ?_;intro gg cap1 w8 hown1 hgrow hat hlt'))
   all_goals go_wp2_with fail
   all_goals
    have hbx:Below w.heap.size w (w7.alloc (.cells #[.string f.name,.string f.text,.int .i64 f.kept] 150)):=((((HB.out.alloc HB.out.size _).drew).trans (hbA.mono (by have:=HB.out.size;simp;omega))).trans (hbB.mono (by have h1:=hbA.size;have:=HB.out.size;simp at h1;omega))).alloc (by have h1:=hbA.size;have h2:=hbB.size;have:=HB.out.size;simp at h1;omega) _;have hbn:Below w.heap.size w w8:=hbx.grown hgrow hbx.size (fun j hj=>by have:=(hown.lt j hj).1;omega);have hyn:WCells w8 w.heap.size [.slice none 0 0]:=qbk ((((WCells.grow (w:=(wr.alloc (.cells #[.string f.name,.string f.text,.int .i64 f.kept] 150)).drew) (hy.1.alloc _) hbA).grow hbB).alloc _)) hgrow (fun e=>by have:=(hown.lt _ e).1;omega);refine ⟨⟨k+1,by go_num,by omega,⟨hyn⟩,?_,hbn⟩,by simp [intOf];omega⟩;rw [HST.out];exact hown1
  ·have e:k=fs.length:=by omega
   subst e;rw [List.take_length] at hown;obtain ⟨yc,yf⟩:=hy.1.2 0 _ rfl;clear hb;obtain ⟨va,vcap,rfl⟩:=qbd hown;go_wp2_with fail
   show bodyPost Tryz.prog Tryz.f59 _ Exit.ret _ _
   refine bodyPost_ret (v:=.agg #[.slice va fs.length vcap]) (by simp [results,Tryz.results59,go_sem,yc]) rfl ⟨_,rfl,?_,HB.out.setCell (by simp) _⟩;exact qaz (qax hown (show w.heap.size<w.heap.size+1 by omega) _ rfl _ rfl) (by omega)
end
section
open BigFrame
theorem qkd (p:ByteArray) (w:World) (hs:p.size<=1048576):Calls Tryz.prog 155 #[.string p] w fun e w'=>e = .returned (.bool (named p))/\Below w.heap.size w w':=by
 have HC:=zS (fun W=>qgy p W hs);unfold qfj at HC;have e0:named p=(qab p).2.2:=rfl;rw [e0];generalize (qab p).2.2=a at *;generalize (qab p).2.1=b at *;generalize (qab p).1=c at *;clear hs e0;go_enter Tryz.func155,Tryz.ntmps155;go_wp2_with fail;refine (HC.1 _).mono ?_;rintro e w1 ⟨rfl,hb⟩;go_wp2_with fail;go_ret;exact ⟨rfl,hb⟩
end
abbrev muLink:Go.Conc.Locks.MuLink:={ lock:=106,unlock:=107,ilock:=147,iunlock:=148,lockSlow:=178,unlockSlow:=181,disable:=174,enable:=176,acquire:=177,relMerge:=179,cas32:=175,add32:=180,tMutex:=163,tIMutex:=161,tPMutex:=220,tPIMutex:=236,tPI32:=238,tUP:=240,tNoCopy:=159,tU32:=146 }
theorem muLib:Go.Conc.Locks.MuLib Tryz.prog muLink:=
 ⟨Tryz.func106,Tryz.func107,Tryz.func147,Tryz.func148,Tryz.func174,Tryz.func176,Tryz.func177,Tryz.func179,Tryz.func175,Tryz.func180,Tryz.underlying161,Tryz.runUnderlying161,Tryz.sizeOf161,Tryz.isAgg161,Tryz.zeroValue161,Tryz.underlying163,Tryz.runUnderlying163,Tryz.sizeOf163,Tryz.isAgg163,Tryz.zeroValue163,Tryz.underlying220,Tryz.runUnderlying220,Tryz.sizeOf220,Tryz.isAgg220,Tryz.zeroValue220,Tryz.underlying236,Tryz.runUnderlying236,Tryz.sizeOf236,Tryz.isAgg236,Tryz.zeroValue236,Tryz.underlying238,Tryz.runUnderlying238,Tryz.sizeOf238,Tryz.isAgg238,Tryz.zeroValue238,Tryz.underlying240,Tryz.runUnderlying240,Tryz.sizeOf240,Tryz.isAgg240,Tryz.zeroValue240,Tryz.underlying159,Tryz.runUnderlying159,Tryz.sizeOf159,Tryz.isAgg159,Tryz.zeroValue159,Tryz.underlying21,Tryz.runUnderlying21,Tryz.sizeOf21,Tryz.isAgg21,Tryz.zeroValue21,by kernel_rfl⟩
section
open BigFrame
theorem implClone (s:ByteArray) (w:World) (hs:s.size<=281474976710656):Calls Tryz.prog 103 #[.string s] w fun e w'=>e = .returned (.string s)/\Below w.heap.size w w':=by
 have HC:=zS (fun W=>Tryz.stringslite_Clone s W hs);go_enter Tryz.func103,Tryz.ntmps103;go_wp2_with fail;refine (HC.1 _).mono ?_;rintro e w1 ⟨rfl,hb⟩;go_wp2_with fail;go_ret;exact ⟨rfl,hb⟩

theorem eqNoneLease (n c:Nat) (W:World):Sem.run Tryz.prog (binOp BinOp.eql 41 (.slice none n c) (.slice none 0 0)) W = .ok (.bool true) W:=by kernel_rfl
theorem eqSomeLease (q:Addr) (n c:Nat) (W:World):Sem.run Tryz.prog (binOp BinOp.eql 41 (.slice (some q) n c) (.slice none 0 0)) W = .ok (.bool false) W:=by kernel_rfl
attribute [local go_sem] eqNoneLease eqSomeLease
def qlu (L:List Value) (n:Nat) (w:World) (e:Ending) (w':World):Prop:=∃ (a:Option Addr) (c:Nat),e = .returned (.slice a n c)/\w'.ownsRow w.heap.size 102 3 (.slice a n c) n L/\Below w.heap.size w w'
theorem cloneL_any {w:World} {a:Option Addr} {n cap:Nat} {ps:List LsM} (h:CRow w a (lsS ps)) (hn:n=ps.length) (hl:n<=1048576):Calls Tryz.prog 105 #[.slice a n cap] w fun e w'=>qlu (lsS ps) n w e w':=by
 have hv:∀ u ∈ lsS ps,u.oneCell'=true:=qsb ps;have hL:(lsS ps).length=n*3:=by rw [qkk,hn]
 have HV:=zS hv;generalize lsS ps=L at h HV hL ⊢;clear hn hv;obtain ⟨j0,hjn,hy0,hy1,hy2⟩:=info_parts qhq;have HL:=zS hL;clear hL;rcases Nat.eq_zero_or_pos n with h0 | hp
 ·have hL0:L=[]:=List.eq_nil_of_length_eq_zero (by rw [HL.1,h0,Nat.zero_mul])
  subst h0;subst hL0;clear h
  cases a with
  | none =>
   go_enter Tryz.func105,Tryz.ntmps105;go_wp2_with fail;go_ret;exact ⟨none,0,rfl,World.ownsRow_nil w w.heap.size 102 3,zB⟩
  | some q =>
   have hap:∀ (W:World) (g:Addr),∀ ty,(Builtin.append_ #[41,41] ty #[.slice (some g) 0 0,.slice (some q) 0 cap]).run Tryz.prog W = .ok (.slice (some g) 0 0) W:=fun W g ty =>
    run_append_nothing W _ _ _ _ j0 Tryz.underlying41 hjn (some g) 0 0 zL _ (Src.ofSlice W Tryz.underlying41 q 0 cap [] (by simp) (by simp) (by simp))
   have HAP:=zS hap;clear hap;go_enter Tryz.func105,Tryz.ntmps105;go_wp2_with (at_builtin;refine qbj _ rfl _ _ 41 rfl _ _ rfl rfl (HAP.1 _ _) ?_);go_ret;exact ⟨some ⟨w.heap.size,0,none⟩,0,rfl,World.ownsRow_made (e:=102) (size:=3) (base:=w.heap.size) w #[] 0 zL (by decide) rfl,zB.alloc zL _⟩
 ·have hLp:0<L.length:=by rw [HL.1];omega
  obtain ⟨pb,poff,rfl,lpb,hpc⟩:=h hLp;have HPC:=zS hpc;clear hpc h hLp;go_enter Tryz.func105,Tryz.ntmps105;have hmade:=World.ownsRow_made (e:=102) (size:=3) (base:=w.heap.size) w #[] 0 zL (by decide) rfl;go_wp2_with (at_builtin;refine wpList_append_own _ rfl _ _ 41 rfl w.heap.size 102 j0 _ 3 32 Tryz.underlying41 hjn hy0 hy1 hy2 rfl (by decide) _ 0 [] rfl hmade ⟨pb,poff,none⟩ n cap L rfl ?c0 ?c1 ?c2 ?c3 ?c4 ?c5 ?_)
  case c0=>first | exact HL.1 | (rw [HL.1];omega)
  case c1 =>
   intro i u hu;have e:(⟨pb,poff,none⟩:Addr).add i=⟨pb,poff+i,none⟩:=by cases i <;> simp [Addr.add]
   rw [e,<-HPC.1 i u hu];exact ((Below.refl w.heap.size w).alloc zL _).cell (p:=⟨pb,poff+i,none⟩) lpb
  case c2=>exact HV.1
  case c3=>unfold maxLen;omega
  case c4=>omega
  case c5=>simp
  intro v' w10 ho10 hgrow _;obtain ⟨a9,c9,rfl⟩:=qbe ho10;have HO:=zS ho10;have HB:Sh (Below w.heap.size w w10):=⟨((Below.refl w.heap.size w).alloc zL _).grown hgrow (by simp) (fun j hj=>by cases hj;exact zL)⟩;clear ho10 hgrow hmade;go_wp2_with fail;go_ret;exact ⟨a9,c9,rfl,HO.1,HB.1⟩
abbrev tbS (tb:Nat) (s:Int) (v:Value):Str:=bxS tb [.int .i32 s,.int .u32 0,v]
theorem implTableOf (us:List LsM) (a:Option Addr) (cap:Nat) (w:World) (hr:LsRow w a us) (hl:us.length<=1048576) :
  Calls Tryz.prog 60 #[.slice a us.length cap] w fun e w'=>∃ tb v,e = .returned (.pointer (some ⟨tb,0,none⟩))/\OwS w w' [tbS tb 0 v] 102 3 v us.length (lsS us):=by
 have HC:=zS (cloneL_any (cap:=cap) hr rfl hl);unfold qlu at HC;generalize us.length=n at HC ⊢;clear hr hl;go_enter Tryz.func60,Tryz.ntmps60;go_wp2_with (go_at_call 105;refine HC.1.mono ?_;rintro e w1 ⟨a1,c1,rfl,ho,hb⟩;have HO:=zS ((⟨(SL.start w).below hb,ho,fun _ _ _ h=>by cases h⟩:OwS w w1 [] 102 3 (.slice a1 n c1) n (lsS us)).box #[.int .i32 0,.int .u32 0,.slice a1 n c1] 165);clear ho hb);go_ret;exact ⟨_,_,rfl,HO.1⟩
theorem implTold {w0 W:World} {tb n:Nat} {v:Value} {L:List LsM} (h:OwS w0 W [tbS tb 0 v] 102 3 v n (lsS L)) (hn:n=L.length) (hl:n<=3000000) (hz:∀ u ∈ L,u.path.size<=1048576) :
  Calls Tryz.prog 61 #[.pointer (some ⟨tb,0,none⟩)] W fun e W'=>qsa L w0 e W':=by
 obtain ⟨i0,hin,hz0,hz1,hz2⟩:=info_parts qhq;obtain ⟨av,cv,rfl⟩:=qbe h.own;obtain ⟨x0,z0⟩:=h.sl.bx 0 rfl 0 _ rfl;have hB0:w0.heap.size<=tb:=(h.sl.is _ zM).2.2.1;have HW1:=zS (h.put 0 rfl 0 (.int .i32 1) (by simp));simp only [List.set_cons_zero] at HW1;have HN:=zS hn;have HZ:=zS hz;clear h hz hn;go_enter_defers Tryz.func61,Tryz.ntmps61
 go_upto_region 3 with (go_at_call 106;refine (Go.MuLone.lock_free muLib ⟨tb,0,none⟩ _ x0 z0).mono ?_;rintro e w1 ⟨rfl,rfl⟩);refine qaa (fun V=>OwS w0 V [tbS tb 1 (.slice av n cv)] 102 3 (.slice av n cv) n (lsS L)) HW1.1 ?_;intro W1 hW1;have H1:=zS hW1;have HR1:=zS (FRw.of_own hW1.own).1.crow;have ltb:tb<W1.heap.size:=(hW1.sl.at 0 rfl).1;clear HW1 hW1 x0 z0;obtain ⟨W2,hmk,hown,hgr⟩:=run_make_own (P:=Tryz.prog) W1 W1.heap.size 41 102 i0 _ 3 Tryz.underlying41 hin hz0 hz1 .i64 .i64 n (by rw [hz2];omega) (by unfold maxLen;omega) zL;have HO:=zS (OwS.more (OwS.nil (ty:=102) (sz:=3) (SL.start W1)) zB hown hgr (.inr rfl));have y2:=(H1.1.sl.bx 0 rfl 2 _ rfl).1;have z2:W2.cell? ⟨tb,2,none⟩=some (.slice av n cv):=(HO.1.sl.bel.cell (p:=⟨tb,2,none⟩) ltb).trans y2;obtain ⟨g0,hg0⟩:∃ q,q=W1.heap.size:=⟨_,rfl⟩;clear hown hgr;go_wp2_with fail;clear y2 z2 hmk hg0 g0;go_loopw [3,24] (fun v9 i9 wr=>∃ (k:Nat),i9 = .int .i64 k/\k<=n/\Sh (OwS W1 wr [] 102 3 v9 k (lsS (L.take k)))) (fun _ i9 _=>n - (intOf i9).toNat)
 case atStart=>exact ⟨0,rfl,Nat.zero_le _,HO⟩
 case round =>
  clear HO;obtain ⟨k,rfl,hk,HW⟩:=hrel;obtain ⟨av9,cv9,rfl⟩:=qbe HW.1.own
  by_cases hlt:k<n
  ·have hku:k<L.length:=by rw [<-HN.1];exact hlt
   obtain ⟨b,off,u,rfl,hu,lb,hc⟩:=ls_at HR1.1 HW.1.sl.bel hku;obtain ⟨d0,d1,d2⟩:=hc wr zB;have k0:(0:Int)<=(k:Int):=by omega
   have k1:(k:Int)<(n:Int):=by omega
   have HUT:Sh (u.path.size<=1048576):=⟨by rw [hu];exact HZ.1 _ (List.getElem_mem hku)⟩;have HNX:Sh (lsS (L.take (k+1))=lsS (L.take k)++[.string u.path,.int .i64 u.who,.int .i64 u.seen]):=⟨by rw [List.take_succ_eq_append_getElem hku,<-hu,lss_snoc];rfl⟩;have HX:=zS (HW.1.box #[.string u.path,.int .i64 u.who,.int .i64 u.seen] 102);obtain ⟨bb,hbb⟩:∃ q,q=wr.heap.size:=⟨_,rfl⟩;rw [<-hbb] at HX;clear hc hu;go_upto_region 7 with fail;refine qaa (fun W=>OwS W1 W (bxS bb [.string u.path,.int .i64 u.who,.int .i64 u.seen]::[]) 102 3 (.slice av9 k cv9) k (lsS (L.take k))) HX.1 ?_;intro W3 hW;rw [<-hbb];have H2:=zS hW;clear hW HX hbb d0 d1 d2 HW;have z0:=(H2.1.sl.bx 0 rfl 0 _ rfl).1;go_upto_region 8 with (go_at_call 103;refine (implClone u.path _ (by have:=HUT.1;omega)).mono ?_;rintro e w3 ⟨rfl,hb⟩;have H3:=zS (H2.1.below hb);obtain ⟨y2,y2z⟩:=H3.1.sl.bx 0 rfl 0 _ rfl;clear hb z0 H2);have H4:=zS (H3.1.put 0 rfl 0 (.string u.path) (by simp));simp only [List.set_cons_zero] at H4;refine qaa (fun W=>OwS W1 W (bxS bb [.string u.path,.int .i64 u.who,.int .i64 u.seen]::[]) 102 3 (.slice av9 k cv9) k (lsS (L.take k))) H4.1 ?_;intro W4 hW;have H5:=zS hW;clear hW H4 H3 y2 y2z;have z0:=(H5.1.sl.bx 0 rfl 0 _ rfl).1;have z1:=(H5.1.sl.bx 0 rfl 1 _ rfl).1;have z2:=(H5.1.sl.bx 0 rfl 2 _ rfl).1;have lz:bb<W4.heap.size:=(show WCells W4 bb _ from H5.1.sl.at 0 rfl).1;have hown:=H5.1.own;have hbs:=H5.1.sl.bel.size
   go_wp2_with (at_builtin;refine wpList_append_own_at _ rfl _ _ 41 rfl W1.heap.size 102 i0 _ 3 32 Tryz.underlying41 hin hz0 hz1 hz2 rfl (by decide) _ _ _ rfl (hown.alloc _) ⟨W4.heap.size,0,none⟩ 1 1 [.string u.path,.int .i64 u.who,.int .i64 u.seen] rfl rfl (World.news_of_block (cs:=#[.string u.path,.int .i64 u.who,.int .i64 u.seen]) (t:=102) (fr:=(0,0)) (heap_alloc_new W4 _)) ?c2 ?c3 ?c4 ?c5 ?_)
   case c2=>simp [Value.oneCell']
   case c3=>unfold maxLen;omega
   case c4=>omega
   case c5=>first | omega | (simp;omega)
   intro v9 w9 ho hg _ hat;have HL9:=zS (H5.1.more (zB.alloc zL _) ho hg (by simpa using hat)).tail;rw [<-HNX.1] at HL9;clear ho hg hat hown hbs z0 z1 z2 lz H5;go_wp2_with fail;go_roundw
   case rel=>exact ⟨k+1,by go_num,by omega,HL9⟩
   case measure=>simp [intOf];omega
  ·obtain rfl:k=n:=by omega
   rw [List.take_of_length_le (by have:=HN.1;omega)] at HW;obtain ⟨q0,q1⟩:=H1.1.sl.bx 0 rfl 0 _ rfl;have r0:=(HW.1.sl.bel.cell (p:=⟨tb,0,none⟩) ltb).trans q0;have r1:=(HW.1.sl.bel.frozen (p:=⟨tb,0,none⟩) ltb).trans q1;obtain ⟨a8,c8,e8,hf8,hc8⟩:=HW.1.frw;obtain ⟨rfl,rfl⟩:av9=a8/\cv9=c8:=by simpa using e8
   have HF:=zS (rwS.loc av9 (lsS L) W1.heap.size wr.heap.size wr (wr.setCell ⟨tb,0,none⟩ (.int .i32 0)) tb (tb+1) hf8 (Turned.of_grown (qam wr tb 0 _) zL (Nat.lt_succ_self _)) (.inr ltb));have HB:=zS ((H1.1.sl.bel.trans (HW.1.sl.bel.mono H1.1.sl.bel.size)).setCell (p:=⟨tb,0,none⟩) hB0 (.int .i32 0));clear hf8 e8 q0 q1;go_wp2_with fail;refine leaves_cons (f:=107) (args:=#[.pointer (some ⟨tb,0,none⟩)]) (by simp) (by simp [go_sem]) ?_;refine (Go.MuLone.unlock_deferred muLib ⟨tb,0,none⟩ .returning _ r0 r1).mono ?_;rintro e u' w'' ⟨rfl,rfl,rfl⟩;exact ⟨_,results_tmp rfl _ _ _,av9,cv9,by rw [HN.1];rfl,qot HF.1 H1.1.sl.bel.size (by simp [World.setCell]),by rw [<-HN.1];exact hc8,HB.1⟩
end
section
variable {n t:ByteArray} {fs o:List FM} {k:Nat}
def lessF (f:FM) (fs:List FM):List FM:=fs.filter fun g=>Op.bytesLess g.name.toList f.name.toList
def moreF (f:FM) (fs:List FM):List FM:=fs.filter fun g=>!(Op.bytesLess g.name.toList f.name.toList||g.name.toList==f.name.toList)
def putF (f:FM) (fs:List FM):List FM:=lessF f fs++[f]++moreF f fs
theorem lessF_step (f:FM) (fs:List FM) (k:Nat) (h:k<fs.length):lessF f (fs.take (k+1))=lessF f (fs.take k)++(if Op.bytesLess fs[k].name.toList f.name.toList then [fs[k]] else []):=by
 unfold lessF;rw [List.take_succ_eq_append_getElem h,List.filter_append];cases hc:Op.bytesLess fs[k].name.toList f.name.toList <;> simp [hc]
theorem moreF_step (f:FM) (fs:List FM) (k:Nat) (h:k<fs.length):moreF f (fs.take (k+1))=moreF f (fs.take k)++(if (!(Op.bytesLess fs[k].name.toList f.name.toList||fs[k].name.toList==f.name.toList))=true then [fs[k]] else []):=by
 unfold moreF;rw [List.take_succ_eq_append_getElem h,List.filter_append]
 congr 1
 rw [List.filter_cons,List.filter_nil]
theorem qjx (f:FM) (fs:List FM):(lessF f fs).length<=fs.length:=List.length_filter_le _ _
theorem moreF_len (f:FM) (fs:List FM):(moreF f fs).length<=fs.length:=List.length_filter_le _ _
theorem qgj (a:Option Addr) (fs:List FM) (cap:Nat) (p:FM) (w:World) (hr:FRow w a fs) (hl:fs.length<=1048576) :
  Calls Tryz.prog 98 #[.agg #[.slice a fs.length cap],fv p] w fun e w'=>MadeDisk (putF p fs) w e w':=by
 obtain ⟨i0,hi,hz0,hz1,hz2⟩:=info_parts qfh;have HR:Hid (FRow w a fs):=hr;have hx0:=(((qac w #[.slice a fs.length cap] 40).alloc (.cells #[.string p.name,.string p.text,.int .i64 p.kept] 150)).alloc (.cells #[.slice none 0 0] 40)).alloc (.cells #[.slice none 0 0] 40);have hp0:=((qac (w.alloc (.cells #[.slice a fs.length cap] 40)) #[.string p.name,.string p.text,.int .i64 p.kept] 150).alloc (.cells #[.slice none 0 0] 40)).alloc (.cells #[.slice none 0 0] 40);have hy0:=(qac ((w.alloc (.cells #[.slice a fs.length cap] 40)).alloc (.cells #[.string p.name,.string p.text,.int .i64 p.kept] 150)) #[.slice none 0 0] 40).alloc (.cells #[.slice none 0 0] 40);have hv0:=qac (((w.alloc (.cells #[.slice a fs.length cap] 40)).alloc (.cells #[.string p.name,.string p.text,.int .i64 p.kept] 150)).alloc (.cells #[.slice none 0 0] 40)) #[.slice none 0 0] 40;simp only [World.size_alloc] at hx0 hp0 hy0 hv0;have HX0:Sh (WCells ((((w.alloc (.cells #[.slice a fs.length cap] 40)).alloc (.cells #[.string p.name,.string p.text,.int .i64 p.kept] 150)).alloc (.cells #[.slice none 0 0] 40)).alloc (.cells #[.slice none 0 0] 40)) w.heap.size [.slice a fs.length cap]):=⟨hx0⟩;have HP0:Sh (WCells ((((w.alloc (.cells #[.slice a fs.length cap] 40)).alloc (.cells #[.string p.name,.string p.text,.int .i64 p.kept] 150)).alloc (.cells #[.slice none 0 0] 40)).alloc (.cells #[.slice none 0 0] 40)) (w.heap.size+1) [.string p.name,.string p.text,.int .i64 p.kept]):=⟨hp0⟩
 have HY0:Sh (WCells ((((w.alloc (.cells #[.slice a fs.length cap] 40)).alloc (.cells #[.string p.name,.string p.text,.int .i64 p.kept] 150)).alloc (.cells #[.slice none 0 0] 40)).alloc (.cells #[.slice none 0 0] 40)) (w.heap.size+1+1) [.slice none 0 0]):=⟨hy0⟩;have HV0:Sh (WCells ((((w.alloc (.cells #[.slice a fs.length cap] 40)).alloc (.cells #[.string p.name,.string p.text,.int .i64 p.kept] 150)).alloc (.cells #[.slice none 0 0] 40)).alloc (.cells #[.slice none 0 0] 40)) (w.heap.size+1+1+1) [.slice none 0 0]):=⟨hv0⟩;have HB0:Hid (Below w.heap.size w ((((w.alloc (.cells #[.slice a fs.length cap] 40)).alloc (.cells #[.string p.name,.string p.text,.int .i64 p.kept] 150)).alloc (.cells #[.slice none 0 0] 40)).alloc (.cells #[.slice none 0 0] 40))):=(((zB.alloc zL _).alloc (by simp) _).alloc (by simp;omega) _).alloc (by simp;omega) _;clear hr hx0 hp0 hy0 hv0;go_enter Tryz.func98,Tryz.ntmps98;go_wp2_with fail
 go_loopw [6] (fun i wr=>∃ (k:Nat) (v:Value),i = .int .i64 k/\k<=fs.length/\Sh (WCells wr w.heap.size [.slice a fs.length cap])/\Sh (WCells wr (w.heap.size+1) [.string p.name,.string p.text,.int .i64 p.kept])/\Sh (WCells wr (w.heap.size+1+1) [.slice none 0 0])/\Sh (WCells wr (w.heap.size+1+1+1) [v]) /\
   wr.ownsRow (w.heap.size+4) 150 3 v (lessF p (fs.take k)).length (fcs (lessF p (fs.take k)))/\Below w.heap.size w wr) (fun i _=>fs.length - (intOf i).toNat)
 case atStart=>exact ⟨0,.slice none 0 0,rfl,Nat.zero_le _,HX0,HP0,HY0,HV0,by simp [lessF,fcs];exact qrl _ _ _,HB0.out⟩
 case round =>
  obtain ⟨k,v,rfl,hk,hx,hz,hy,hv,hown,hb⟩:=hrel;have x0:=(hx.1.2 0 _ rfl).1;have p0:=(hz.1.2 0 _ rfl).1
  by_cases hlt:k<fs.length
  ·obtain ⟨b,off,rfl,lb0,hc0⟩:=FRow.at HR.out (by omega)
   obtain ⟨d0,d1,d2⟩:=hc0 k hlt;rw [<-hb.cell (p:=⟨b,off+k*3,none⟩) lb0] at d0;rw [<-hb.cell (p:=⟨b,off+k*3+1,none⟩) lb0] at d1;rw [<-hb.cell (p:=⟨b,off+k*3+2,none⟩) lb0] at d2;have hstep:=lessF_step p fs k hlt;obtain ⟨f,hfe⟩:∃ f,f=fs[k]:=⟨_,rfl⟩;rw [<-hfe] at d0 d1 d2 hstep;have k0:(0:Int)<=(k:Int):=by omega
   have k1:(k:Int)<(fs.length:Int):=by omega
   have hlen:(lessF p (fs.take k)).length<=3000000:=by have:=qjx p (fs.take k);simp at this;omega
   clear hfe hc0
   by_cases hn:Op.bytesLess f.name.toList p.name.toList=true
   ·rw [if_pos hn] at hstep
    have HST:Hid (_=_):=hstep;clear hstep;go_wp2_with fail;go_quiet (fail)
    have hx':Sh (WCells (wr.drewN nq) w.heap.size [.slice (some ⟨b,off,none⟩) fs.length cap]):=⟨hx.1⟩;have hz':Sh (WCells (wr.drewN nq) (w.heap.size+1) [.string p.name,.string p.text,.int .i64 p.kept]):=⟨hz.1⟩;have hy':Sh (WCells (wr.drewN nq) (w.heap.size+1+1) [.slice none 0 0]):=⟨hy.1⟩;have hv':Sh (WCells (wr.drewN nq) (w.heap.size+1+1+1) [v]):=⟨hv.1⟩;have hown':(wr.drewN nq).ownsRow (w.heap.size+4) 150 3 v (lessF p (fs.take k)).length (fcs (lessF p (fs.take k))):=hown;have hb':Below w.heap.size w (wr.drewN nq):=hb.trans ⟨rfl,rfl,rfl,zL,fun _ _=>rfl⟩;have d0':(wr.drewN nq).cell? ⟨b,off+k*3,none⟩=some (.string f.name):=d0;have d1':(wr.drewN nq).cell? ⟨b,off+k*3+1,none⟩=some (.string f.text):=d1;have d2':(wr.drewN nq).cell? ⟨b,off+k*3+2,none⟩=some (.int .i64 f.kept):=d2;clear hx hz hy hv hown hb d0 d1 d2 x0 p0;generalize wr.drewN nq=wq at *;have x0:=(hx'.out.2 0 _ rfl).1;obtain ⟨vc,vf⟩:=hv'.out.2 0 _ rfl;have HB:Hid (Below w.heap.size w wq):=hb';have hv1:w.heap.size+1+1+1<wq.heap.size:=hv'.out.1;have lb1:b<wq.heap.size:=by omega
    have nv:v.ownBlock ≠ some (w.heap.size+1+1+1):=fun e=>by have:=(hown'.lt _ e).1;omega
    clear hb';go_wp2_with fail;go_region_law ((refine step_append_lies _ (by rfl) _ _ _ (by rfl) (w.heap.size+4) 150 i0 _ 3 40 Tryz.underlying38 hi hz0 hz1 hz2 rfl (by omega) _ _ _ (by rfl) ((hown'.alloc _).drew) ⟨wq.heap.size,0,none⟩ 1 1 [.string f.name,.string f.text,.int .i64 f.kept] (by rfl) (by rfl) (World.news_of_block (cs:=#[.string f.name,.string f.text,.int .i64 f.kept]) (t:=150) (fr:=(0,0)) (heap_alloc_new wq _)) (by simp [Value.oneCell']) (by omega) (by unfold maxLen;omega) (by omega) (by simp;omega) (wq.heap.size+1) (by simp) ?_;intro gg cap1 w1 hown1 hgrow hat hlt';have vc1:=(cell_grown hgrow ⟨w.heap.size+1+1+1,0,none⟩ (by simp;omega) nv).trans ((hv'.out.alloc _).2 0 _ rfl).1;have vf1:=(qdh hgrow ⟨w.heap.size+1+1+1,0,none⟩ (by simp;omega) nv).trans ((hv'.out.alloc _).2 0 _ rfl).2))
    all_goals go_wp2_with fail
    all_goals
     obtain ⟨u1,u2,u3,u4⟩:=qjj hv'.out (show w.heap.size+1+1+1<w.heap.size+4 by omega) hown' hgrow hown1;refine ⟨⟨k+1,_,by go_num,by omega,⟨u1 _ _ (by omega) (by omega) hx'.out⟩,⟨u1 _ _ (by omega) (by omega) hz'.out⟩,⟨u1 _ _ (by omega) (by omega) hy'.out⟩,⟨u2⟩,?_,u4 _ _ (by omega) HB.out⟩,by simp [intOf];omega⟩;rw [HST.out,qgi,List.length_append];exact u3
   ·have hn':Op.bytesLess f.name.toList p.name.toList=false:=by simpa using hn
    rw [if_neg hn,List.append_nil] at hstep;have HST:Hid (_=_):=hstep;clear hstep hn;go_wp2_with fail;go_quiet (fail)
    go_wp2_with fail;go_roundw
    case rel=>exact ⟨k+1,v,by go_num,by omega,⟨hx.1⟩,⟨hz.1⟩,⟨hy.1⟩,⟨hv.1⟩,by rw [HST.out];exact hown,hb.trans ⟨rfl,rfl,rfl,zL,fun _ _=>rfl⟩⟩
    case measure=>simp [intOf];omega
  ·have e:k=fs.length:=by omega
   subst e;rw [List.take_length] at hown;obtain ⟨vc,vf⟩:=hv.1.2 0 _ rfl;have p1:=(hz.1.2 1 _ rfl).1;have p2:=(hz.1.2 2 _ rfl).1;have hv1:w.heap.size+1+1+1<wr.heap.size:=hv.1.1;have nv:v.ownBlock ≠ some (w.heap.size+1+1+1):=fun e=>by have:=(hown.lt _ e).1;omega
   have hlen:(lessF p fs).length<=3000000:=by have:=qjx p fs;omega
   have HB:Hid (Below w.heap.size w wr):=hb;clear hb;go_wp2_with (at_builtin;refine wpList_append_own _ rfl _ _ 38 rfl (w.heap.size+4) 150 i0 _ 3 40 Tryz.underlying38 hi hz0 hz1 hz2 rfl (by decide) _ _ _ rfl (hown.alloc _) ⟨wr.heap.size,0,none⟩ 1 1 [.string p.name,.string p.text,.int .i64 p.kept] rfl rfl (World.news_of_block (cs:=#[.string p.name,.string p.text,.int .i64 p.kept]) (t:=150) (fr:=(0,0)) (heap_alloc_new wr _)) ?c2 ?c3 ?c4 ?c5 ?_)
   case c2=>simp [Value.oneCell']
   case c3=>unfold maxLen;omega
   case c4=>omega
   case c5=>simp;omega
   intro v3 w3 hown3 hgrow3 _;obtain ⟨va,vcap,rfl⟩:=qbd hown3;have vc1:=(cell_grown hgrow3 ⟨w.heap.size+1+1+1,0,none⟩ (by simp;omega) nv).trans ((hv.1.alloc _).2 0 _ rfl).1;have vf1:=(qdh hgrow3 ⟨w.heap.size+1+1+1,0,none⟩ (by simp;omega) nv).trans ((hv.1.alloc _).2 0 _ rfl).2;obtain ⟨u1,u2,u3,u4⟩:=qjj hv.1 (show w.heap.size+1+1+1<w.heap.size+4 by omega) hown (⟨hgrow3.os,hgrow3.tape,hgrow3.output,hgrow3.size,hgrow3.block⟩) hown3;have HX3:Sh (WCells (w3.setCell ⟨w.heap.size+1+1+1,0,none⟩ (.slice va ((lessF p fs).length+1) vcap)) w.heap.size [.slice a fs.length cap]):=⟨u1 _ _ (by omega) (by omega) hx.1⟩;have HP3:Sh (WCells (w3.setCell ⟨w.heap.size+1+1+1,0,none⟩ (.slice va ((lessF p fs).length+1) vcap)) (w.heap.size+1) [.string p.name,.string p.text,.int .i64 p.kept]):=⟨u1 _ _ (by omega) (by omega) hz.1⟩;have HY3:Sh (WCells (w3.setCell ⟨w.heap.size+1+1+1,0,none⟩ (.slice va ((lessF p fs).length+1) vcap)) (w.heap.size+1+1) [.slice none 0 0]):=⟨u1 _ _ (by omega) (by omega) hy.1⟩;have HV3:Sh (WCells (w3.setCell ⟨w.heap.size+1+1+1,0,none⟩ (.slice va ((lessF p fs).length+1) vcap)) (w.heap.size+1+1+1) [.slice va ((lessF p fs).length+1) vcap]):=⟨u2⟩;have HB3:Hid (Below w.heap.size w (w3.setCell ⟨w.heap.size+1+1+1,0,none⟩ (.slice va ((lessF p fs).length+1) vcap))):=u4 _ _ (by omega) HB.out
   have HO3:Hid ((w3.setCell ⟨w.heap.size+1+1+1,0,none⟩ (.slice va ((lessF p fs).length+1) vcap)).ownsRow (w.heap.size+4) 150 3 (.slice va ((lessF p fs).length+1) vcap) (lessF p fs++[p]).length (fcs (lessF p fs++[p]))):=by
    have h:(w3.setCell ⟨w.heap.size+1+1+1,0,none⟩ (.slice va ((lessF p fs).length+1) vcap)).ownsRow (w.heap.size+4) 150 3 (.slice va ((lessF p fs).length+1) vcap) (lessF p fs++[p]).length (fcs (lessF p fs++[p])):=by rw [qgi,List.length_append];exact u3
    exact h
   clear u1 u2 u3 u4 hown3 hgrow3 hx hz hy hv hown x0 p0 p1 p2 vc vf;go_wp2_with fail
   go_loopw [7] (fun i wr=>∃ (k:Nat) (v:Value),i = .int .i64 k/\k<=fs.length/\Sh (WCells wr w.heap.size [.slice a fs.length cap])/\Sh (WCells wr (w.heap.size+1) [.string p.name,.string p.text,.int .i64 p.kept])/\Sh (WCells wr (w.heap.size+1+1) [.slice none 0 0])/\Sh (WCells wr (w.heap.size+1+1+1) [v]) /\
     wr.ownsRow (w.heap.size+4) 150 3 v (lessF p fs++[p]++moreF p (fs.take k)).length (fcs (lessF p fs++[p]++moreF p (fs.take k)))/\Below w.heap.size w wr) (fun i _=>fs.length - (intOf i).toNat)
   case atStart=>exact ⟨0,_,rfl,Nat.zero_le _,HX3,HP3,HY3,HV3,by simpa [moreF] using HO3.out,HB3.out⟩
   case round =>
    obtain ⟨k,v,rfl,hk,hx,hz,hy,hv,hown,hb⟩:=hrel;have x0:=(hx.1.2 0 _ rfl).1;have p0:=(hz.1.2 0 _ rfl).1
    by_cases hlt:k<fs.length
    ·obtain ⟨b,off,rfl,lb0,hc0⟩:=FRow.at HR.out (by omega)
     obtain ⟨d0,d1,d2⟩:=hc0 k hlt;rw [<-hb.cell (p:=⟨b,off+k*3,none⟩) lb0] at d0;rw [<-hb.cell (p:=⟨b,off+k*3+1,none⟩) lb0] at d1;rw [<-hb.cell (p:=⟨b,off+k*3+2,none⟩) lb0] at d2;have hstep:=moreF_step p fs k hlt;obtain ⟨f,hfe⟩:∃ f,f=fs[k]:=⟨_,rfl⟩;rw [<-hfe] at d0 d1 d2 hstep;have k0:(0:Int)<=(k:Int):=by omega
     have k1:(k:Int)<(fs.length:Int):=by omega
     have hlen:(lessF p fs++[p]++moreF p (fs.take k)).length<=3000000:=by have h1:=qjx p fs;have h2:=moreF_len p (fs.take k);simp at h2 ⊢;omega
     clear hfe hc0
     by_cases hA:Op.bytesLess f.name.toList p.name.toList=true
     ·rw [if_neg (by simp [hA]),List.append_nil] at hstep
      have HST:Hid (_=_):=hstep;clear hstep;go_wp2_with fail;go_quiet (fail)
      go_wp2_with fail;go_roundw
      case rel=>exact ⟨k+1,v,by go_num,by omega,⟨hx.1⟩,⟨hz.1⟩,⟨hy.1⟩,⟨hv.1⟩,by rw [HST.out];exact hown,hb.trans ⟨rfl,rfl,rfl,zL,fun _ _=>rfl⟩⟩
      case measure=>simp [intOf];omega
     ·have hA':Op.bytesLess f.name.toList p.name.toList=false:=by simpa using hA
      clear hA
      by_cases hE:(f.name.toList==p.name.toList)=true
      ·rw [if_neg (by simp [hE]),List.append_nil] at hstep
       have HST:Hid (_=_):=hstep;clear hstep;go_wp2_with fail;go_quiet (fail)
       go_wp2_with fail;go_roundw
       case rel=>exact ⟨k+1,v,by go_num,by omega,⟨hx.1⟩,⟨hz.1⟩,⟨hy.1⟩,⟨hv.1⟩,by rw [HST.out];exact hown,hb.trans ⟨rfl,rfl,rfl,zL,fun _ _=>rfl⟩⟩
       case measure=>simp [intOf];omega
      ·have hE':(f.name.toList==p.name.toList)=false:=by simpa using hE
       clear hE;obtain ⟨ys,hys⟩:∃ ys,ys=lessF p fs++[p]++moreF p (fs.take k):=⟨_,rfl⟩;rw [<-hys] at hown hlen;have HYS:Hid (ys=lessF p fs++[p]++moreF p (fs.take k)):=hys;clear hys;rw [if_pos (show (!(Op.bytesLess f.name.toList p.name.toList||f.name.toList==p.name.toList))=true by rw [hA',hE'];rfl)] at hstep;have HST:Hid (_=_):=hstep;clear hstep;go_wp2_with fail;go_quiet (fail)
       have hx':Sh (WCells (wr.drewN nq) w.heap.size [.slice (some ⟨b,off,none⟩) fs.length cap]):=⟨hx.1⟩;have hz':Sh (WCells (wr.drewN nq) (w.heap.size+1) [.string p.name,.string p.text,.int .i64 p.kept]):=⟨hz.1⟩;have hy':Sh (WCells (wr.drewN nq) (w.heap.size+1+1) [.slice none 0 0]):=⟨hy.1⟩;have hv':Sh (WCells (wr.drewN nq) (w.heap.size+1+1+1) [v]):=⟨hv.1⟩;have hown':(wr.drewN nq).ownsRow (w.heap.size+4) 150 3 v ys.length (fcs ys):=hown;have hb':Below w.heap.size w (wr.drewN nq):=hb.trans ⟨rfl,rfl,rfl,zL,fun _ _=>rfl⟩;have d0':(wr.drewN nq).cell? ⟨b,off+k*3,none⟩=some (.string f.name):=d0;have d1':(wr.drewN nq).cell? ⟨b,off+k*3+1,none⟩=some (.string f.text):=d1;have d2':(wr.drewN nq).cell? ⟨b,off+k*3+2,none⟩=some (.int .i64 f.kept):=d2;clear hx hz hy hv hown hb d0 d1 d2 x0 p0;generalize wr.drewN nq=wq at *;have x0:=(hx'.out.2 0 _ rfl).1;obtain ⟨vc,vf⟩:=hv'.out.2 0 _ rfl;have HB:Hid (Below w.heap.size w wq):=hb';have hv1:w.heap.size+1+1+1<wq.heap.size:=hv'.out.1;have lb1:b<wq.heap.size:=by omega
       have nv:v.ownBlock ≠ some (w.heap.size+1+1+1):=fun e=>by have:=(hown'.lt _ e).1;omega
       clear hb';go_wp2_with fail;go_region_law ((refine step_append_lies _ (by rfl) _ _ _ (by rfl) (w.heap.size+4) 150 i0 _ 3 40 Tryz.underlying38 hi hz0 hz1 hz2 rfl (by omega) _ _ _ (by rfl) ((hown'.alloc _).drew) ⟨wq.heap.size,0,none⟩ 1 1 [.string f.name,.string f.text,.int .i64 f.kept] (by rfl) (by rfl) (World.news_of_block (cs:=#[.string f.name,.string f.text,.int .i64 f.kept]) (t:=150) (fr:=(0,0)) (heap_alloc_new wq _)) (by simp [Value.oneCell']) (by omega) (by unfold maxLen;omega) (by omega) (by simp;omega) (wq.heap.size+1) (by simp) ?_;intro gg cap1 w1 hown1 hgrow hat hlt';have vc1:=(cell_grown hgrow ⟨w.heap.size+1+1+1,0,none⟩ (by simp;omega) nv).trans ((hv'.out.alloc _).2 0 _ rfl).1;have vf1:=(qdh hgrow ⟨w.heap.size+1+1+1,0,none⟩ (by simp;omega) nv).trans ((hv'.out.alloc _).2 0 _ rfl).2))
       all_goals go_wp2_with fail
       all_goals
        obtain ⟨u1,u2,u3,u4⟩:=qjj hv'.out (show w.heap.size+1+1+1<w.heap.size+4 by omega) hown' hgrow hown1;refine ⟨⟨k+1,_,by go_num,by omega,⟨u1 _ _ (by omega) (by omega) hx'.out⟩,⟨u1 _ _ (by omega) (by omega) hz'.out⟩,⟨u1 _ _ (by omega) (by omega) hy'.out⟩,⟨u2⟩,?_,u4 _ _ (by omega) HB.out⟩,by simp [intOf];omega⟩;rw [HST.out,<-List.append_assoc,<-HYS.out,qgi,List.length_append];exact u3
    ·have e:k=fs.length:=by omega
     subst e;rw [List.take_length] at hown;obtain ⟨va2,vcap2,rfl⟩:=qbd hown;obtain ⟨vc,vf⟩:=hv.1.2 0 _ rfl;obtain ⟨yc,yf⟩:=hy.1.2 0 _ rfl;go_wp2_with fail
     show bodyPost Tryz.prog Tryz.f98 _ Exit.ret _ _
     refine bodyPost_ret (v:=.agg #[.slice va2 (lessF p fs++[p]++moreF p fs).length vcap2]) (by simp [results,Tryz.results98,go_sem,yc]) rfl ⟨_,rfl,?_,hb.setCell (by simp;omega) _⟩;exact qaz (qax hown (show w.heap.size+1+1<w.heap.size+4 by omega) _ rfl _ rfl) (by omega)
structure AM where
 kind:Int
 name:ByteArray
 text:ByteArray
 dst:ByteArray
instance:Inhabited AM:=⟨⟨0,⟨#[]⟩,⟨#[]⟩,⟨#[]⟩⟩⟩
abbrev av (f:AM):Value:=.agg #[.int .i64 f.kind,.string f.name,.string f.text,.string f.dst]
def qsm (f:AM):List Value:=[.int .i64 f.kind,.string f.name,.string f.text,.string f.dst]
theorem qeu (f:AM):(qsm f).length=4:=rfl
def acs (fs:List AM):List Value:=fs.flatMap qsm
theorem acs_len (fs:List AM):(acs fs).length=fs.length*4:=qch qeu fs
abbrev ARow (w:World) (a:Option Addr) (fs:List AM):Prop:=CRow w a (acs fs)
theorem ARow.at {w:World} {a:Option Addr} {fs:List AM} (h:ARow w a fs) (hp:0<fs.length) :
  ∃ b off,a=some ⟨b,off,none⟩/\b<w.heap.size/\∀ j (h:j<fs.length),w.cell? ⟨b,off+j*4,none⟩=some (.int .i64 fs[j].kind)/\w.cell? ⟨b,off+j*4+1,none⟩=some (.string fs[j].name)/\w.cell? ⟨b,off+j*4+2,none⟩=some (.string fs[j].text)/\w.cell? ⟨b,off+j*4+3,none⟩=some (.string fs[j].dst):=by
 obtain ⟨b,off,e,hb,hc⟩:=h (by rw [acs_len];omega);exact ⟨b,off,e,hb,fun j hj=>⟨hc (j*4) _ (flat_get qeu fs j hj 0 (by omega)),hc (j*4+1) _ (flat_get qeu fs j hj 1 (by omega)),hc (j*4+2) _ (flat_get qeu fs j hj 2 (by omega)),hc (j*4+3) _ (flat_get qeu fs j hj 3 (by omega))⟩⟩
abbrev nm (f:FM):List UInt8:=f.name.data.toList
theorem qcc (s:ByteArray):s.toList=s.data.toList:=ByteArray.toList_eq s
theorem qsn {s t:ByteArray} (h:s.data.toList=t.data.toList):s=t:=ByteArray.ext (Array.toList_inj.1 h)
abbrev UpN (fs:List FM):Prop:=fs.Pairwise fun f g=>nm f<nm g
theorem DOk.of_up (h1:fs.length<=30) (h2:∀ f ∈ fs,FOk f) (h3:UpN fs):DOk fs:=by
 refine ⟨h1,fun k hk=>?_⟩;unfold FAt;rw [qbc fs k hk];refine ⟨h2 _ (List.getElem_mem hk),fun h0=>?_⟩;rw [qbc fs (k - 1) (by omega),bytesLess_eq,qcc,qcc];exact decide_eq_true (List.pairwise_iff_getElem.1 h3 (k - 1) k (by omega) hk (by omega))
theorem DOk.ok (h:DOk fs):∀ f ∈ fs,FOk f:=by
 intro f hf;obtain ⟨k,hk,rfl⟩:=List.getElem_of_mem hf;have:=(h.2 k hk).1
 rwa [qbc fs k hk] at this
theorem DOk.up (h:DOk fs):UpN fs:=by
 refine List.pairwise_iff_getElem.2 fun i j hi hj hij=>?_
 induction j with
 | zero=>omega
 | succ j ih =>
  have hs:=(h.2 (j+1) hj).2 (by omega);rw [qbc fs (j+1) hj,qbc fs (j+1 - 1) (by omega),bytesLess_eq,qcc,qcc] at hs;have hs':nm fs[j]<nm fs[j+1]:=of_decide_eq_true hs
  by_cases e:i=j
  ·subst e;exact hs'
  ·exact List.lt_trans (ih (by omega) (by omega)) hs'
theorem UpN.nodup (h:UpN fs):fs.Nodup:=h.imp fun {a b} hlt e=>by subst e;exact List.lt_irrefl _ hlt
theorem UpN.name (h:UpN fs) {f g:FM} (hf:f ∈ fs) (hg:g ∈ fs) (e:f.name=g.name):f=g:=by
 induction fs with
 | nil=>simp at hf
 | cons x xs ih =>
  obtain ⟨h1,h2⟩:=List.pairwise_cons.1 h;rcases List.mem_cons.1 hf with rfl | hf' <;> rcases List.mem_cons.1 hg with rfl | hg'
  ·rfl
  ·have:=h1 g hg';rw [show nm g=nm f by rw [nm,nm,e]] at this;exact absurd this (List.lt_irrefl _)
  ·have:=h1 f hf';rw [show nm f=nm g by rw [nm,nm,e]] at this;exact absurd this (List.lt_irrefl _)
  ·exact ih h2 hf' hg'
theorem mem_less {f g:FM}:g ∈ lessF f fs↔g ∈ fs/\nm g<nm f:=by
 unfold lessF;rw [List.mem_filter,bytesLess_eq,qcc,qcc];simp
theorem mem_more {f g:FM}:g ∈ moreF f fs↔g ∈ fs/\nm f<nm g:=by
 unfold moreF;rw [List.mem_filter,<-qjl,bytesLess_eq,qcc,qcc];simp
theorem mem_putF {f g:FM}:g ∈ putF f fs↔g=f\/(g ∈ fs/\g.name ≠ f.name):=by
 unfold putF;simp only [List.mem_append,mem_less,mem_more,List.mem_singleton];constructor
 ·rintro ((⟨h1,h2⟩ | h) | ⟨h1,h2⟩)
  ·exact .inr ⟨h1,fun e=>by rw [show nm g=nm f by rw [nm,nm,e]] at h2;exact List.lt_irrefl _ h2⟩
  ·exact .inl h
  ·exact .inr ⟨h1,fun e=>by rw [show nm g=nm f by rw [nm,nm,e]] at h2;exact List.lt_irrefl _ h2⟩
 ·rintro (h | ⟨h1,h2⟩)
  ·exact .inl (.inr h)
  ·by_cases c:nm g<nm f
   ·exact .inl (.inl ⟨h1,c⟩)
   ·refine .inr ⟨h1,?_⟩
    by_cases c2:nm f<nm g
    ·exact c2
    ·exact absurd (qsn (List.le_antisymm (List.not_lt.1 c2) (List.not_lt.1 c))) h2
theorem mem_withoutF {g:FM}:g ∈ qag n fs↔g ∈ fs/\g.name ≠ n:=by
 unfold qag;rw [List.mem_filter];simp
theorem UpN.without (h:UpN fs) (n:ByteArray):UpN (qag n fs):=h.filter _
theorem UpN.put (h:UpN fs) (f:FM):UpN (putF f fs):=by
 unfold putF;refine List.pairwise_append.2 ⟨List.pairwise_append.2 ⟨h.filter _,List.pairwise_singleton _ _,fun a ha b hb=>?_⟩,h.filter _,fun a ha b hb=>?_⟩
 ·rw [List.mem_singleton] at hb;subst hb;exact (mem_less.1 ha).2
 ·have hb':=(mem_more.1 hb).2
  rcases List.mem_append.1 ha with ha | ha
  ·exact List.lt_trans (mem_less.1 ha).2 hb'
  ·rw [List.mem_singleton] at ha;subst ha;exact hb'
theorem qhb (h:UpN fs) (f:FM):(putF f fs).length=(qag f.name fs).length+1:=by
 have hp:(putF f fs).Perm (f::qag f.name fs):=by
  refine (List.perm_ext_iff_of_nodup (h.put f).nodup ?_).2 fun g=>?_
  ·exact List.nodup_cons.2 ⟨fun hf=>(mem_withoutF.1 hf).2 rfl,(h.without _).nodup⟩
  ·rw [mem_putF,List.mem_cons,mem_withoutF]
 rw [hp.length_eq];rfl
theorem qel (h:∀ f ∈ fs,f.name ≠ n):qag n fs=fs:=by
 unfold qag;rw [List.filter_eq_self];intro f hf
 simpa using h f hf
theorem qdf (h:UpN fs) {f:FM} (hf:f ∈ fs):(qag f.name fs).length+1=fs.length:=by
 have hp:fs.Perm (f::qag f.name fs):=by
  refine (List.perm_ext_iff_of_nodup h.nodup ?_).2 fun g=>?_
  ·exact List.nodup_cons.2 ⟨fun hf=>(mem_withoutF.1 hf).2 rfl,(h.without _).nodup⟩
  ·rw [List.mem_cons,mem_withoutF]
   constructor
   ·intro hg
    by_cases e:g.name=f.name
    ·exact .inl (h.name hg hf e)
    ·exact .inr ⟨hg,e⟩
   ·rintro (rfl | ⟨hg,_⟩)
    ·exact hf
    ·exact hg
 rw [hp.length_eq];rfl
def fileOf (fs:List FM) (n:ByteArray):Option FM:=fs.find? fun f=>decide (f.name=n)
theorem qbv {f:FM} (h:fileOf fs n=some f):f ∈ fs/\f.name=n:=by
 unfold fileOf at h;exact ⟨List.mem_of_find?_eq_some h,by simpa using List.find?_some h⟩
theorem qdz (h:fileOf fs n=none):∀ f ∈ fs,f.name ≠ n:=by
 unfold fileOf at h;intro f hf
 simpa using List.find?_eq_none.1 h f hf
def outA (fs:List FM) (a:AM):Option (List FM):=
 if a.kind=1 then some (putF ⟨a.name,((fileOf fs a.name).getD ⟨a.name,⟨#[]⟩,0⟩).text++a.text,((fileOf fs a.name).getD ⟨a.name,⟨#[]⟩,0⟩).kept⟩ fs)
 else match fileOf fs a.name with
  | none=>none
  | some f =>
   if a.kind=2 then some (putF ⟨a.name,f.text,(f.text.size:Int)⟩ fs)
   else if a.kind=3 then (if f.kept<(f.text.size:Int)\/a.dst=a.name\/¬ (1<=a.dst.size/\a.dst.size<=8) then none else some (putF ⟨a.dst,f.text,f.kept⟩ (qag a.name fs)))
   else if a.kind=4 then some (qag a.name fs)
   else none
def ActIs (a:AM):Prop:=(1<=a.name.size/\a.name.size<=8)/\(a.kind ≠ 3->a.dst=⟨#[]⟩)/\(a.kind ≠ 1->a.text=⟨#[]⟩)
open Classical in
noncomputable def doA (fs:List FM) (a:AM):Option (List FM):=if DOk fs/\ActIs a then (outA fs a).filter fun o=>decide (DOk o) else none
noncomputable def doAs (fs:List FM):List AM->List FM × Nat
 | []=>(fs,0)
 | a::rs=>match doA fs a with
  | none=>(fs,0)
  | some o=>((doAs o rs).1,(doAs o rs).2+1)
theorem qre {a:AM} (h:doA fs a=some o):DOk o:=by
 unfold doA at h;split at h
 ·rw [Option.filter_eq_some_iff] at h
  simpa using h.2
 ·cases h
theorem qgw {a:AM} (h1:DOk fs) (h2:ActIs a) (h3:outA fs a=some o) (h4:DOk o):doA fs a=some o:=by
 unfold doA;rw [if_pos ⟨h1,h2⟩,h3];simp [Option.filter,h4]
theorem qbw {a:AM} (h:∀ o,ActIs a->outA fs a=some o->¬ DOk o):doA fs a=none:=by
 unfold doA;split
 ·rename_i hc
  cases ho:outA fs a with
  | none=>rfl
  | some o=>simp [Option.filter,h o hc.2 ho]
 ·rfl
theorem qhh (t:ByteArray):(⟨#[]⟩:ByteArray)++t=t:=by
 apply ByteArray.ext;rw [ByteArray.data_append];simp
theorem qdp (h:UpN fs) {f:FM} (hf:f ∈ fs) (g:FM) (e:g.name=f.name):(putF g fs).length=fs.length:=by
 rw [qhb h g,e,qdf h hf]
theorem qpt (h:DOk fs) (g:FM) (hg:FOk g) (hl:(putF g fs).length<=30):DOk (putF g fs):=
 DOk.of_up hl (fun f hf=>by rcases mem_putF.1 hf with rfl | ⟨hf,_⟩;exact hg;exact h.ok f hf) (h.up.put g)
theorem qdw (h:DOk fs) (n:ByteArray):DOk (qag n fs):=
 DOk.of_up (Nat.le_trans (qfi n fs) h.1) (fun f hf=>h.ok f (mem_withoutF.1 hf).1) (h.up.without n)
theorem doA_add_there {f:FM} (h:DOk fs) (hf:fileOf fs n=some f):doA fs ⟨1,n,t,⟨#[]⟩⟩=if f.text.size+t.size<=20000 then some (putF ⟨n,f.text++t,f.kept⟩ fs) else none:=by
 obtain ⟨hm,rfl⟩:=qbv hf;have hok:=h.ok f hm;have ho:outA fs ⟨1,f.name,t,⟨#[]⟩⟩=some (putF ⟨f.name,f.text++t,f.kept⟩ fs):=by unfold outA;simp [hf]
 have hsz:(f.text++t).size=f.text.size+t.size:=ByteArray.size_append;split
 ·rename_i hc
  refine qgw h ⟨hok.1,fun _=>rfl,fun h=>absurd rfl h⟩ ho (qpt h _ ⟨hok.1,?_,hok.2.2.1,?_⟩ (by rw [qdp h.up hm ⟨f.name,f.text++t,f.kept⟩ rfl];exact h.1))
  ·show (f.text++t).size<=20000;omega
  ·show f.kept<=((f.text++t).size:Int);have:=hok.2.2.2;omega
 ·rename_i hc
  refine qbw fun o _ e hd=>hc ?_;rw [ho] at e;cases e;have:=(hd.ok _ (mem_putF.2 (.inl rfl))).2.1;simp only at this;omega
theorem doA_add_new (h:DOk fs) (hf:fileOf fs n=none):doA fs ⟨1,n,t,⟨#[]⟩⟩=if (1<=n.size/\n.size<=8)/\fs.length<30/\t.size<=20000 then some (putF ⟨n,t,0⟩ fs) else none:=by
 have ho:outA fs ⟨1,n,t,⟨#[]⟩⟩=some (putF ⟨n,t,0⟩ fs):=by unfold outA;simp [hf,qhh]
 have hl:(putF ⟨n,t,0⟩ fs).length=fs.length+1:=by rw [qhb h.up,qel (qdz hf)]
 split
 ·rename_i hc
  exact qgw h ⟨hc.1,fun _=>rfl,fun h=>absurd rfl h⟩ ho (qpt h _ ⟨hc.1,hc.2.2,Int.le_refl _,by simp⟩ (by omega))
 ·rename_i hc
  refine qbw fun o ha e hd=>hc ?_;rw [ho] at e;cases e;have h1:=(hd.ok _ (mem_putF.2 (.inl rfl))).2.1;have h2:=hd.1;exact ⟨ha.1,by omega,h1⟩
theorem doA_keep (h:DOk fs):doA fs ⟨2,n,⟨#[]⟩,⟨#[]⟩⟩=(fileOf fs n).map fun f=>putF ⟨n,f.text,(f.text.size:Int)⟩ fs:=by
 cases hf:fileOf fs n with
 | none=>exact qbw fun o _ e=>by unfold outA at e;simp [hf] at e
 | some f =>
  obtain ⟨hm,rfl⟩:=qbv hf;have hok:=h.ok f hm;exact qgw h ⟨hok.1,fun _=>rfl,fun _=>rfl⟩ (by unfold outA;simp [hf]) (qpt h _ ⟨hok.1,hok.2.1,by simp,Int.le_refl _⟩ (by rw [qdp h.up hm ⟨f.name,f.text,(f.text.size:Int)⟩ rfl];exact h.1))
theorem doA_drop (h:DOk fs):doA fs ⟨4,n,⟨#[]⟩,⟨#[]⟩⟩=(fileOf fs n).map fun _=>qag n fs:=by
 cases hf:fileOf fs n with
 | none=>exact qbw fun o _ e=>by unfold outA at e;simp [hf] at e
 | some f =>
  obtain ⟨hm,rfl⟩:=qbv hf;exact qgw h ⟨(h.ok f hm).1,fun _=>rfl,fun _=>rfl⟩ (by unfold outA;simp [hf]) (qdw h _)
theorem doA_move (h:DOk fs):doA fs ⟨3,n,⟨#[]⟩,t⟩=(fileOf fs n).bind fun f=>if f.kept=(f.text.size:Int)/\t ≠ n/\(1<=t.size/\t.size<=8) then some (putF ⟨t,f.text,f.kept⟩ (qag n fs)) else none:=by
 cases hf:fileOf fs n with
 | none=>exact qbw fun o _ e=>by unfold outA at e;simp [hf] at e
 | some f =>
  obtain ⟨hm,rfl⟩:=qbv hf;have hok:=h.ok f hm;have hle:=hok.2.2.2;simp only [Option.bind_some];split
  ·rename_i hc
   have hl:(putF ⟨t,f.text,f.kept⟩ (qag f.name fs)).length<=30:=by
    rw [qhb (h.up.without _)];have h1:=qfi t (qag f.name fs);have h2:=qdf h.up hm;have h3:=h.1
    show (qag t (qag f.name fs)).length+1<=30
    omega
   refine qgw h ⟨hok.1,fun h=>absurd rfl h,fun _=>rfl⟩ ?_ (qpt (qdw h _) _ ⟨hc.2.2,hok.2.1,hok.2.2.1,hok.2.2.2⟩ hl);unfold outA;simp [hf];exact ⟨by omega,hc.2.1,hc.2.2⟩
  ·rename_i hc
   refine qbw fun o _ e=>?_;exfalso;apply hc;unfold outA at e;simp only [hf] at e;simp at e;exact ⟨by have:=e.1.1;omega,e.1.2.1,e.1.2.2⟩
theorem qdg {a:AM} (h:(a.kind ≠ 1/\a.text ≠ ⟨#[]⟩)\/(a.kind ≠ 3/\a.dst ≠ ⟨#[]⟩)):doA fs a=none:=by
 refine qbw fun o ha _=>?_;exfalso;rcases h with ⟨h1,h2⟩ | ⟨h1,h2⟩
 ·exact h2 (ha.2.2 h1)
 ·exact h2 (ha.2.1 h1)
theorem qpu {a:AM} (h:a.kind ≠ 1/\a.kind ≠ 2/\a.kind ≠ 3/\a.kind ≠ 4):doA fs a=none:=by
 refine qbw fun o _ e=>?_;exfalso;unfold outA at e;rw [if_neg h.1] at e
 cases hf:fileOf fs a.name with
 | none=>simp [hf] at e
 | some f=>simp [hf,h.2.1,h.2.2.1,h.2.2.2] at e
theorem doAs_bad (h:¬ DOk fs) (xs:List AM):doAs fs xs=(fs,0):=by
 cases xs with
 | nil=>rfl
 | cons a xs =>
  have:doA fs a=none:=by unfold doA;rw [if_neg (fun hc=>h hc.1)]
  simp [doAs,this]
def Ran (fs:List FM) (xs:List AM) (k:Nat) (o:List FM):Prop:=doAs fs xs=((doAs o (xs.drop k)).1,(doAs o (xs.drop k)).2+k)
theorem Ran.start (fs:List FM) (xs:List AM):Ran fs xs 0 fs:=by unfold Ran;simp
theorem Ran.step {xs:List AM} {o o':List FM} (h:Ran fs xs k o) (hk:k<xs.length) (e:doA o xs[k]=some o'):Ran fs xs (k+1) o':=by
 unfold Ran at *;rw [h,List.drop_eq_getElem_cons hk];simp only [doAs,e]
 congr 1
 omega
theorem Ran.stop {xs:List AM} (h:Ran fs xs k o) (hk:k<xs.length) (e:doA o xs[k]=none):doAs fs xs=(o,k):=by
 unfold Ran at h;rw [h,List.drop_eq_getElem_cons hk];simp [doAs,e]
theorem Ran.all {xs:List AM} (h:Ran fs xs xs.length o):doAs fs xs=(o,xs.length):=by
 unfold Ran at h;rw [h,List.drop_length];simp [doAs]
end
section
open Go.Maps
def qao:Value->Option (DataW Unit × List MemPlace)
 | .pointer (some ⟨g,0,none⟩)=>some (.lit (.int .i64 g),[])
 | .pointer none=>some (.nil,[])
 | _=>none
theorem qrx {v:Value} {g:Int} {ps:List MemPlace} (h:qao v=some (.lit (.int .i64 g),ps)):∃ n:Nat,(n:Int)=g/\v = .pointer (some ⟨n,0,none⟩):=by
 unfold qao at h;split at h
 ·simp at h;exact ⟨_,h.1,rfl⟩
 ·simp at h
 ·cases h
theorem ptr_nil {v:Value} {ps:List MemPlace} (h:qao v=some (.nil,ps)):v = .pointer none:=by
 unfold qao at h;split at h
 ·simp at h
 ·rfl
 ·cases h
theorem lawK:Keyed Tryz.prog 9:=string_keyed Tryz.underlying9
abbrev kl (n:ByteArray):Lit:=.string n.data.toList
theorem qjd {m n:ByteArray} (h:kl m=kl n):m=n:=qsn (by simpa using h)
theorem qje (n:ByteArray) (h:n.size<=maxLen):keyOf Tryz.prog 9 (.string n)=some (kl n):=Go.WideMaps.keyOf_string_mk Tryz.underlying9 h
theorem qcz (w:World):(zeroValue 227).run Tryz.prog w = .ok (.pointer none) w:=by kernel_rfl
def Shelf (w:World) (B b:Nat) (fs:List FM):Prop:=
 B<=b/\∃ (D:DataW Unit) (G:ByteArray->Nat),w.ownsMap Tryz.prog 9 qao b fs.length D/\Maps.size D=fs.length /\
  (∀ f ∈ fs,(∀ z,D.atKey (kl f.name) z = .lit (.int .i64 (G f.name)))/\WCells w (G f.name) (qbz f)/\B<=G f.name/\G f.name ≠ b) /\
  (∀ f ∈ fs,∀ f' ∈ fs,G f.name=G f'.name->f.name=f'.name)/\∀ n,(∀ f ∈ fs,f.name ≠ n)->Maps.has D (kl n)=false
theorem qor {w:World} {P:Program} {k:TypeId} {R:Value->Option (DataW Unit × List MemPlace)} {b n m:Nat} {D:DataW Unit} (h:w.ownsMap P k R b n D) (hm:Maps.size D=m):w.ownsMap P k R b m D:=by
 obtain ⟨es,clock,hb,F,hs,hD⟩:=h;refine ⟨es,clock,hb,F,?_,hD⟩;have:Maps.size D=es.size:=by rw [hD];simp [Maps.size,length_sorted]
 omega
section
variable {P:Program} (w:World) {ops:Array Oper} {rest:List Oper} {o:Oper} {a:Act} {Q:Exit->Act->World->Prop}
theorem qdj (hg:o.guard=none) (m x:Operand) (t:TypeId) (hop:o.op=Op.lookup t m x true) (k e:TypeId) (K:Keyed P k) (ht:P.underlying t=some (.map k e)) (hz:(zeroValue e).run P w = .ok (.pointer none) w) (b n:Nat) (D:DataW Unit)
  (hm:a.eval m = .map (some b)) (hown:w.ownsMap P k qao b n D) (key:Value) (l:Lit) (hx:a.eval x=key) (hkey:keyOf P k key=some l) (g:Nat) (hat:∀ z,D.atKey l z = .lit (.int .i64 g))
  (hK:wpList P ops Q rest (a.put o.dst (.tuple #[.pointer (some ⟨g,0,none⟩),.bool true])) w):wpList P ops Q (o::rest) a w:=
 wpList_lookup_own_ok w hg m x t hop k e K ht qao hz .nil [] rfl b n D hm hown key l hx hkey (fun v ps hv=>by
  rw [hat] at hv;obtain ⟨n',e,rfl⟩:=qrx hv;obtain rfl:n'=g:=by omega
  rw [Maps.has_true_of_atKey hat]
  exact hK)
theorem qbq (hg:o.guard=none) (m x:Operand) (t:TypeId) (hop:o.op=Op.lookup t m x true) (k e:TypeId) (K:Keyed P k) (ht:P.underlying t=some (.map k e)) (hz:(zeroValue e).run P w = .ok (.pointer none) w) (b n:Nat) (D:DataW Unit)
  (hm:a.eval m = .map (some b)) (hown:w.ownsMap P k qao b n D) (key:Value) (l:Lit) (hx:a.eval x=key) (hkey:keyOf P k key=some l) (hno:Maps.has D l=false)
  (hK:wpList P ops Q rest (a.put o.dst (.tuple #[.pointer none,.bool false])) w):wpList P ops Q (o::rest) a w:=
 wpList_lookup_own_ok w hg m x t hop k e K ht qao hz .nil [] rfl b n D hm hown key l hx hkey (fun v ps hv=>by
  rw [Maps.atKey_of_not_has hno] at hv;rw [ptr_nil hv,hno]
  exact hK)
theorem wpList_at (hg:o.guard=none) (m x:Operand) (t:TypeId) (hop:o.op=Op.lookup t m x false) (k e:TypeId) (K:Keyed P k) (ht:P.underlying t=some (.map k e)) (hz:(zeroValue e).run P w = .ok (.pointer none) w) (b n:Nat) (D:DataW Unit)
  (hm:a.eval m = .map (some b)) (hown:w.ownsMap P k qao b n D) (key:Value) (l:Lit) (hx:a.eval x=key) (hkey:keyOf P k key=some l) (g:Nat) (hat:∀ z,D.atKey l z = .lit (.int .i64 g))
  (hK:wpList P ops Q rest (a.put o.dst (.pointer (some ⟨g,0,none⟩))) w):wpList P ops Q (o::rest) a w:=by
 refine wpList_plain hg fun K' hK'=>?_;obtain ⟨v,ps,hrun,hv⟩:=hown.lookup K ht hz (zd:=.nil) (zp:=[]) rfl hkey;rw [hat] at hv;obtain ⟨n',e,rfl⟩:=qrx hv;obtain rfl:n'=g:=by omega
 unfold Oper.wp;simp [execOp,hop,hm,hx,hrun,Result.andThen];exact hK' _ _ hK
end
theorem Shelf.put {w':World} {B b m g:Nat} {fs:List FM} {f:FM} {D D':DataW Unit} {G:ByteArray->Nat} (hB:B<=b) (hown:w'.ownsMap Tryz.prog 9 qao b m D') (hsz:Maps.size D'=(putF f fs).length)
  (hin:∀ f' ∈ fs,(∀ z,D.atKey (kl f'.name) z = .lit (.int .i64 (G f'.name)))/\B<=G f'.name/\G f'.name ≠ b) (hinj:∀ f1 ∈ fs,∀ f2 ∈ fs,G f1.name=G f2.name->f1.name=f2.name) (hno:∀ n,(∀ f ∈ fs,f.name ≠ n)->Maps.has D (kl n)=false)
  (hoth:∀ l,l ≠ kl f.name->(∀ z,D'.atKey l z=D.atKey l z)/\Maps.has D' l=Maps.has D l) (hhere:∀ z,D'.atKey (kl f.name) z = .lit (.int .i64 g)) (hc:WCells w' g (qbz f)) (hcs:∀ f' ∈ fs,f'.name ≠ f.name->WCells w' (G f'.name) (qbz f')) (hg:∀ f' ∈ fs,f'.name ≠ f.name->G f'.name ≠ g)
  (hBg:B<=g) (hgb:g ≠ b):Shelf w' B b (putF f fs):=by
 refine ⟨hB,D',fun n=>if n=f.name then g else G n,qor hown hsz,hsz,fun f' hf'=>?_,fun f1 h1 f2 h2 e=>?_,fun n hn=>?_⟩
 ·rcases mem_putF.1 hf' with rfl | ⟨hm,hne⟩
  ·simp only [if_pos]
   exact ⟨hhere,hc,hBg,hgb⟩
  ·simp only [if_neg hne]
   obtain ⟨q1,q2,q3⟩:=hin f' hm;exact ⟨fun z=>by rw [(hoth _ (fun e=>hne (qjd e))).1 z];exact q1 z,hcs f' hm hne,q2,q3⟩
 ·rcases mem_putF.1 h1 with rfl | ⟨m1,n1⟩ <;> rcases mem_putF.1 h2 with rfl | ⟨m2,n2⟩
  ·rfl
  ·simp only [if_pos,if_neg n2] at e
   exact absurd e.symm (hg f2 m2 n2)
  ·simp only [if_pos,if_neg n1] at e
   exact absurd e (hg f1 m1 n1)
  ·simp only [if_neg n1,if_neg n2] at e
   exact hinj f1 m1 f2 m2 e
 ·have hne:n ≠ f.name:=fun e=>hn f (mem_putF.2 (.inl rfl)) e.symm
  rw [(hoth _ (fun e=>hne (qjd e))).2];exact hno n fun f' hf' e=>hn f' (mem_putF.2 (.inr ⟨hf',fun e'=>hne (e ▸ e')⟩)) e
theorem Shelf.keep {w w':World} {B b:Nat} {fs:List FM} (h:Shelf w B b fs) (hb:Below w.heap.size w w'):Shelf w' B b fs:=by
 obtain ⟨hB,D,G,hown,hsz,hin,hinj,hno⟩:=h;refine ⟨hB,D,G,hown.kept (row:=none) ⟨hb.os,hb.tape,hb.output,hb.size,fun k hk _=>hb.block k hk⟩ (by simp),hsz,fun f hf=>?_,hinj,hno⟩;obtain ⟨q1,q2,q3,q4⟩:=hin f hf;exact ⟨q1,q2.grow hb,q3,q4⟩
end
section
open Go.Maps
variable {B b:Nat} {w:World}
def qef (r:Option (List FM)) (fs:List FM) (B b:Nat) (w:World) (e:Ending) (w':World):Prop:=e = .returned (.bool r.isSome)/\Shelf w' B b (r.getD fs)/\Below B w w'
theorem qby {w0 w w':World} (h:Below B w0 w) (ht:w.mapTurned w' b) (hb:B<=b) (hs:B<=w.heap.size):Below B w0 w':=h.grown ht.grown hs (fun j hj=>by simp at hj;omega)
theorem qmy (n:ByteArray) (h:n.size<=maxLen):WideAt.IsKeyLit (kl n):=lawK.key (qje n h)
theorem drop_any (b B:Nat) (fs:List FM) (n:ByteArray) (w:World) (hsh:Shelf w B b fs) (hok:DOk fs) (hn:n.size<=9223372036854775807) :
  Calls Tryz.prog 169 #[.map (some b),.string n] w fun e w'=>qef ((fileOf fs n).map fun _=>qag n fs) fs B b w e w':=by
 have hkey:=qje n hn;obtain ⟨hB,D,G,hown,hsz,hin,hinj,hno⟩:=hsh;have hbl:=hown.lt
 cases hf:fileOf fs n with
 | none =>
  have hnone:=qdz hf;have hab:=hno n hnone
  have HS:Hid (∀ w',w'.ownsMap Tryz.prog 9 qao b fs.length (D.del (kl n))->w.mapTurned w' b->qef none fs B b w (.returned (.bool false)) w'):=by
   intro w' ho ht;refine ⟨rfl,⟨hB,D,G,by rw [Maps.del_of_not_has hab] at ho;exact ho,hsz,fun f hf=>?_,hinj,hno⟩,qby zB ht hB (by omega)⟩;obtain ⟨q1,q2,q3,q4⟩:=hin f hf;exact ⟨q1,qbk q2 ht.grown (fun e=>q4 (by simpa using e.symm)),q3,q4⟩
  clear hin hinj hno hok hnone;go_enter Tryz.func169,Tryz.ntmps169
  go_wp2_with (first
   | (at_lookup;refine qbq _ rfl _ _ 206 rfl 9 227 lawK Tryz.underlying206 (qcz _) b fs.length D rfl hown _ _ rfl hkey hab ?_)
   | (at_delete;refine wpList_delete_own _ rfl _ _ 206 9 rfl 227 lawK Tryz.underlying206 qao b fs.length D rfl hown _ _ rfl hkey ?_;intro w1 hown1 hturn1))
  go_ret;exact HS.out _ hown1 hturn1
 | some f =>
  obtain ⟨hm,rfl⟩:=qbv hf;obtain ⟨q1,q2,q3,q4⟩:=hin f hm;have hhas:=Maps.has_true_of_atKey q1;have htidy:=hown.tidy lawK
  have HS:Hid (∀ w',w'.ownsMap Tryz.prog 9 qao b fs.length (D.del (kl f.name))->w.mapTurned w' b->qef (some (qag f.name fs)) fs B b w (.returned (.bool true)) w'):=by
   intro w' ho ht
   have hs1:Maps.size (D.del (kl f.name))=(qag f.name fs).length:=by
    have h1:=Maps.size_del (k:=kl f.name) htidy;rw [hhas] at h1;have h2:=qdf hok.up hm;simp at h1;omega
   refine ⟨rfl,⟨hB,D.del (kl f.name),G,qor ho hs1,hs1,fun f' hf'=>?_,fun f1 h1 f2 h2 e=>hinj f1 (mem_withoutF.1 h1).1 f2 (mem_withoutF.1 h2).1 e,fun n hn=>?_⟩,qby zB ht hB (by omega)⟩
   ·obtain ⟨hm',hne⟩:=mem_withoutF.1 hf'
    obtain ⟨p1,p2,p3,p4⟩:=hin f' hm';exact ⟨fun z=>by rw [Maps.atKey_del_other (fun e=>hne (qjd e))];exact p1 z,qbk p2 ht.grown (fun e=>p4 (by simpa using e.symm)),p3,p4⟩
   ·by_cases e:n=f.name
    ·subst e;exact Maps.has_del_same
    ·rw [Maps.has_del_other (fun e'=>e (qjd e'))]
     exact hno n fun f' hf' e'=>hn f' (mem_withoutF.2 ⟨hf',fun e2=>e (e'.symm.trans e2)⟩) e'
  generalize G f.name=g at *;clear hin hinj hno hok hhas htidy hsz;go_enter Tryz.func169,Tryz.ntmps169
  go_wp2_with (first
   | (at_lookup;refine qdj _ rfl _ _ 206 rfl 9 227 lawK Tryz.underlying206 (qcz _) b fs.length D rfl hown _ _ rfl hkey g q1 ?_)
   | (at_delete;refine wpList_delete_own _ rfl _ _ 206 9 rfl 227 lawK Tryz.underlying206 qao b fs.length D rfl hown _ _ rfl hkey ?_;intro w1 hown1 hturn1))
  go_ret;exact HS.out _ hown1 hturn1
theorem Shelf.write {fs:List FM} {D:DataW Unit} {G:ByteArray->Nat} (hok:DOk fs) (hB:B<=b) (hown:w.ownsMap Tryz.prog 9 qao b fs.length D) (hsz:Maps.size D=fs.length)
  (hin:∀ f ∈ fs,(∀ z,D.atKey (kl f.name) z = .lit (.int .i64 (G f.name)))/\WCells w (G f.name) (qbz f)/\B<=G f.name/\G f.name ≠ b)
  (hinj:∀ f ∈ fs,∀ f' ∈ fs,G f.name=G f'.name->f.name=f'.name) (hno:∀ n,(∀ f ∈ fs,f.name ≠ n)->Maps.has D (kl n)=false) {f:FM} (hm:f ∈ fs) (i:Nat) (v:Value) (f':FM) (hn:f'.name=f.name) (hi:i<3) (hf':(qbz f).set i v=qbz f') :
  Shelf (w.setCell ⟨G f.name,i,none⟩ v) B b (putF f' fs):=by
 obtain ⟨q1,q2,q3,q4⟩:=hin f hm;refine Shelf.put (D:=D) (G:=G) (g:=G f.name) hB (hown.setCell (a:=⟨G f.name,i,none⟩) (fun e=>q4 e.symm) v) (by rw [qdp hok.up hm f' hn];exact hsz) (fun f2 h2=>⟨(hin f2 h2).1,(hin f2 h2).2.2⟩) hinj hno (fun l _=>⟨fun _=>rfl,rfl⟩) (by rw [hn];exact q1) ?_ (fun f2 h2 hne=>?_) (fun f2 h2 hne e=>hne (by rw [hn];exact hinj f2 h2 f hm e)) q3 q4
 ·have:=q2.set i v (by rw [qbb];exact hi)
  rwa [hf'] at this
 ·exact (hin f2 h2).2.1.other _ _ (fun e=>hne (by rw [hn];exact hinj f2 h2 f hm e))
theorem keep_any (b B:Nat) (fs:List FM) (n:ByteArray) (w:World) (hsh:Shelf w B b fs) (hok:DOk fs) (hn:n.size<=9223372036854775807) :
  Calls Tryz.prog 167 #[.map (some b),.string n] w fun e w'=>qef ((fileOf fs n).map fun f=>putF ⟨n,f.text,(f.text.size:Int)⟩ fs) fs B b w e w':=by
 have hkey:=qje n hn;have HSH:Hid (Shelf w B b fs):=hsh;obtain ⟨hB,D,G,hown,hsz,hin,hinj,hno⟩:=hsh
 cases hf:fileOf fs n with
 | none =>
  have hab:=hno n (qdz hf);clear hin hinj hno hok;go_enter Tryz.func167,Tryz.ntmps167;go_wp2_with (at_lookup;refine qbq _ rfl _ _ 206 rfl 9 227 lawK Tryz.underlying206 (qcz _) b fs.length D rfl hown _ _ rfl hkey hab ?_);go_ret;exact ⟨rfl,HSH.out,zB⟩
 | some f =>
  obtain ⟨hm,rfl⟩:=qbv hf;obtain ⟨q1,q2,q3,q4⟩:=hin f hm
  have HS:Hid (qef (some (putF ⟨f.name,f.text,(f.text.size:Int)⟩ fs)) fs B b w (.returned (.bool true)) (w.setCell ⟨G f.name,2,none⟩ (.int .i64 (f.text.size:Int)))):=
   ⟨rfl,Shelf.write hok hB hown hsz hin hinj hno hm 2 _ ⟨f.name,f.text,(f.text.size:Int)⟩ rfl (by decide) rfl,zB.setCell q3 _⟩
  obtain ⟨c1,_⟩:=q2.2 1 _ rfl;obtain ⟨c2,z2⟩:=q2.2 2 _ rfl;generalize G f.name=g at *;clear hin hinj hno hok hsz q2;go_enter Tryz.func167,Tryz.ntmps167;go_wp2_with (at_lookup;refine qdj _ rfl _ _ 206 rfl 9 227 lawK Tryz.underlying206 (qcz _) b fs.length D rfl hown _ _ rfl hkey g q1 ?_);go_ret;exact HS.out
theorem shAdd_any (b B:Nat) (fs:List FM) (n t:ByteArray) (w:World) (hsh:Shelf w B b fs) (hok:DOk fs) (hn:n.size<=9223372036854775807) (ht:t.size<=1048576) (hBw:B<=w.heap.size) :
  Calls Tryz.prog 166 #[.map (some b),.string n,.string t] w fun e w'=>qef (doA fs ⟨1,n,t,⟨#[]⟩⟩) fs B b w e w':=by
 have hkey:=qje n hn;have hik:=qmy n hn;have HSH:Hid (Shelf w B b fs):=hsh;have h30:=hok.1;obtain ⟨hB,D,G,hown,hsz,hin,hinj,hno⟩:=hsh;have hbl:=hown.lt;have htidy:=hown.tidy lawK
 cases hf:fileOf fs n with
 | none =>
  have hnone:=qdz hf;have hab:=hno n hnone;rw [doA_add_new hok hf]
  have HU:Hid (∀ w1 w2:World,Below w.heap.size w w1->WCells w1 w.heap.size (qbz ⟨n,t,0⟩)->w2.ownsMap Tryz.prog 9 qao b (fs.length+1) (D.put (kl n) (.lit (.int .i64 w.heap.size)))->w1.mapTurned w2 b->qef (some (putF ⟨n,t,0⟩ fs)) fs B b w (.returned (.bool true)) w2):=by
   intro w1 w2 hb1 hc1 ho ht;have hcell:∀ g X,g ≠ b->WCells w1 g X->WCells w2 g X:=fun g X hg hc=>qbk hc ht.grown (fun e=>hg (by simpa using e.symm));refine ⟨rfl,Shelf.put (D:=D) (G:=G) (g:=w.heap.size) hB ho ?_ (fun f2 h2=>⟨(hin f2 h2).1,(hin f2 h2).2.2⟩) hinj hno (fun l hl=>⟨fun z=>Maps.atKey_put_other hl _ z,Maps.has_put_other hl _⟩) (fun z=>Maps.atKey_put_same hown.isMap hik _ z) (hcell _ _ (by omega) hc1) (fun f2 h2 hne=>?_) (fun f2 h2 hne=>?_) hBw (by omega),qby (hb1.mono hBw) ht hB (by have:=hb1.size;omega)⟩
   ·rw [Maps.size_put htidy,hab,qhb hok.up,qel hnone,hsz];rfl
   ·exact hcell _ _ (hin f2 h2).2.2.2 ((hin f2 h2).2.1.grow hb1)
   ·have:=(hin f2 h2).2.1.1;omega
  clear hin hinj hno htidy hf hnone
  by_cases h1:fs.length=30
  ·rw [if_neg (fun h=>by omega)]
   have hl30:((fs.length:Nat):Int)=30:=by omega
   clear HU;go_enter Tryz.func166,Tryz.ntmps166;go_wp2_with (first | (at_lookup;refine qbq _ rfl _ _ 206 rfl 9 227 lawK Tryz.underlying206 (qcz _) b fs.length D rfl hown _ _ rfl hkey hab ?_) | (at_len;refine wpList_len_own _ rfl _ 206 rfl 9 227 Tryz.underlying206 qao b fs.length D rfl hown ?_));go_ret;exact ⟨rfl,HSH.out,zB⟩
  ·have hl30:¬ ((fs.length:Nat):Int)=30:=by omega
   by_cases h2:decide (1<=n.size/\n.size<=8)=true
   ·have h2':=of_decide_eq_true h2
    by_cases h3:t.size<=20000
    ·rw [if_pos ⟨h2',by omega,h3⟩]
     have h3':¬ (20000:Int)<(t.size:Int):=by omega
     have hmx:fs.length<maxLen:=by unfold maxLen;omega
     go_enter Tryz.func166,Tryz.ntmps166;go_wp2_with (first | (at_lookup;refine qbq _ rfl _ _ 206 rfl 9 227 lawK Tryz.underlying206 (qcz _) b fs.length D rfl hown _ _ rfl hkey hab ?_) | (at_len;refine wpList_len_own _ rfl _ 206 rfl 9 227 Tryz.underlying206 qao b fs.length D rfl hown ?_));refine (qav n _ true h2).mono ?_;intro e w1 hw1;obtain ⟨rfl,hww⟩:=hw1;rw [hww];clear hww w1;have hown1:=hown.alloc (.cells #[.string n,.string (⟨#[]⟩++t),.int .i64 0] 150);have HB:Hid (Below w.heap.size w (w.alloc (.cells #[.string n,.string (⟨#[]⟩++t),.int .i64 0] 150))):=zB.alloc zL _
     have HC:Hid (WCells (w.alloc (.cells #[.string n,.string (⟨#[]⟩++t),.int .i64 0] 150)) w.heap.size (qbz ⟨n,t,0⟩)):=by
      have:=qac w #[.string n,.string (⟨#[]⟩++t),.int .i64 0] 150;rw [qhh] at this ⊢;exact this
     go_wp2_with (at_mapUpdate;refine wpList_mapUpdate_in _ rfl _ _ _ 206 rfl 9 227 lawK Tryz.underlying206 qao b fs.length D rfl hown1 hmx _ _ _ rfl rfl hkey (.lit (.int .i64 w.heap.size)) [] rfl ?_;intro w2 hown2 hturn2);go_ret;exact HU.out _ _ HB.out HC.out hown2 hturn2
    ·rw [if_neg (fun h=>h3 h.2.2)]
     have h3':(20000:Int)<(t.size:Int):=by omega
     clear HU;have HB:Hid (Below w.heap.size w (w.alloc (.cells #[.string n,.string ⟨#[]⟩,.int .i64 0] 150))):=zB.alloc zL _;go_enter Tryz.func166,Tryz.ntmps166;go_wp2_with (first | (at_lookup;refine qbq _ rfl _ _ 206 rfl 9 227 lawK Tryz.underlying206 (qcz _) b fs.length D rfl hown _ _ rfl hkey hab ?_) | (at_len;refine wpList_len_own _ rfl _ 206 rfl 9 227 Tryz.underlying206 qao b fs.length D rfl hown ?_));refine (qav n _ true h2).mono ?_;rintro e w1 ⟨rfl,rfl⟩;go_wp2_with fail;go_ret;exact ⟨rfl,HSH.out.keep HB.out,HB.out.mono hBw⟩
   ·have h2':decide (1<=n.size/\n.size<=8)=false:=by simpa using h2
    rw [if_neg (fun h=>of_decide_eq_false h2' h.1)];clear HU;go_enter Tryz.func166,Tryz.ntmps166;go_wp2_with (first | (at_lookup;refine qbq _ rfl _ _ 206 rfl 9 227 lawK Tryz.underlying206 (qcz _) b fs.length D rfl hown _ _ rfl hkey hab ?_) | (at_len;refine wpList_len_own _ rfl _ 206 rfl 9 227 Tryz.underlying206 qao b fs.length D rfl hown ?_));refine (qav n _ false h2').mono ?_;rintro e w1 ⟨rfl,rfl⟩;go_wp2_with fail;go_ret;exact ⟨rfl,HSH.out,zB⟩
 | some f =>
  rw [doA_add_there hok hf];obtain ⟨hm,rfl⟩:=qbv hf;obtain ⟨q1,q2,q3,q4⟩:=hin f hm;have hfs:=(hok.ok f hm).2.1;have hhas:=Maps.has_true_of_atKey q1
  have HU:Hid (∀ w2:World,w2.ownsMap Tryz.prog 9 qao b (fs.length+1) (D.put (kl f.name) (.lit (.int .i64 (G f.name))))->(w.setCell ⟨G f.name,1,none⟩ (.string (f.text++t))).mapTurned w2 b->qef (some (putF ⟨f.name,f.text++t,f.kept⟩ fs)) fs B b w (.returned (.bool true)) w2):=by
   intro w2 ho ht;have hcell:∀ g X,g ≠ b->WCells (w.setCell ⟨G f.name,1,none⟩ (.string (f.text++t))) g X->WCells w2 g X:=fun g X hg hc=>qbk hc ht.grown (fun e=>hg (by simpa using e.symm));have hnew:WCells (w.setCell ⟨G f.name,1,none⟩ (.string (f.text++t))) (G f.name) (qbz ⟨f.name,f.text++t,f.kept⟩):=q2.set 1 (.string (f.text++t)) (by rw [qbb];decide);refine ⟨rfl,Shelf.put (D:=D) (G:=G) (g:=G f.name) hB ho ?_ (fun f2 h2=>⟨(hin f2 h2).1,(hin f2 h2).2.2⟩) hinj hno (fun l hl=>⟨fun z=>Maps.atKey_put_other hl _ z,Maps.has_put_other hl _⟩) (fun z=>Maps.atKey_put_same hown.isMap hik _ z) (hcell _ _ q4 hnew) (fun f2 h2 hne=>?_) (fun f2 h2 hne e=>hne (hinj f2 h2 f hm e)) q3 q4,qby (zB.setCell q3 _) ht hB (by simpa [World.setCell] using hBw)⟩
   ·rw [Maps.size_put htidy,hhas,qdp hok.up hm ⟨f.name,f.text++t,f.kept⟩ rfl,hsz];rfl
   ·exact hcell _ _ (hin f2 h2).2.2.2 ((hin f2 h2).2.1.other _ _ (fun e=>hne (hinj f2 h2 f hm e)))
  obtain ⟨c1,z1⟩:=q2.2 1 _ rfl;have hown1:=hown.setCell (a:=⟨G f.name,1,none⟩) (fun e=>q4 e.symm) (.string (f.text++t));generalize G f.name=g at *;clear hin hinj hno htidy hf hok q2 hsz hhas;have hmx:fs.length<maxLen:=by unfold maxLen;omega
  by_cases h3:f.text.size+t.size<=20000
  ·rw [if_pos h3]
   have h3':¬ (20000:Int) - (f.text.size:Int)<(t.size:Int):=by omega
   clear HSH h3;go_enter Tryz.func166,Tryz.ntmps166;go_wp2_with (first | (at_lookup;refine qdj _ rfl _ _ 206 rfl 9 227 lawK Tryz.underlying206 (qcz _) b fs.length D rfl hown _ _ rfl hkey g q1 ?_) | (at_mapUpdate;refine wpList_mapUpdate_in _ rfl _ _ _ 206 rfl 9 227 lawK Tryz.underlying206 qao b fs.length D rfl hown1 hmx _ _ _ rfl rfl hkey (.lit (.int .i64 g)) [] rfl ?_;intro w2 hown2 hturn2));go_ret;exact HU.out _ hown2 hturn2
  ·rw [if_neg h3]
   have h3':(20000:Int) - (f.text.size:Int)<(t.size:Int):=by omega
   clear HU h3;go_enter Tryz.func166,Tryz.ntmps166;go_wp2_with (at_lookup;refine qdj _ rfl _ _ 206 rfl 9 227 lawK Tryz.underlying206 (qcz _) b fs.length D rfl hown _ _ rfl hkey g q1 ?_);go_ret;exact ⟨rfl,HSH.out,zB⟩
end
theorem allKept_any (f:FM) (w:World):Calls Tryz.prog 188 #[fv f] w fun e w'=>e = .returned (.bool (decide (f.kept=(f.text.size:Int))))/\Below w.heap.size w w':=by
 by_cases h:f.kept=(f.text.size:Int)
 ·have hb:Below w.heap.size w (w.alloc (.cells #[.string f.name,.string f.text,.int .i64 f.kept] 150)):=zB.alloc zL _
  have HB:Hid (Below w.heap.size w (w.alloc (.cells #[.string f.name,.string f.text,.int .i64 f.kept] 150))):=hb;have e:decide (f.kept=(f.text.size:Int))=true:=decide_eq_true h;rw [e];have he:(f.kept==(f.text.size:Int))=true:=by simpa using h
  clear hb e h;go_enter Tryz.func188,Tryz.ntmps188;go_wp2_with fail;go_ret;exact ⟨rfl,HB.out⟩
 ·have hb:Below w.heap.size w (w.alloc (.cells #[.string f.name,.string f.text,.int .i64 f.kept] 150)):=zB.alloc zL _
  have HB:Hid (Below w.heap.size w (w.alloc (.cells #[.string f.name,.string f.text,.int .i64 f.kept] 150))):=hb;have e:decide (f.kept=(f.text.size:Int))=false:=decide_eq_false h;rw [e];have he:(f.kept==(f.text.size:Int))=false:=by simpa using h
  clear hb e h;go_enter Tryz.func188,Tryz.ntmps188;go_wp2_with fail;go_ret;exact ⟨rfl,HB.out⟩
section
open Go.Maps
theorem own_below' {w w':World} {b n:Nat} {D:DataW Unit} (h:w.ownsMap Tryz.prog 9 qao b n D) (hb:Below w.heap.size w w'):w'.ownsMap Tryz.prog 9 qao b n D:=
 h.kept (row:=none) ⟨hb.os,hb.tape,hb.output,hb.size,fun k hk _=>hb.block k hk⟩ (by simp)
theorem move_any (b B:Nat) (fs:List FM) (n t:ByteArray) (w:World) (hsh:Shelf w B b fs) (hok:DOk fs) (hn:n.size<=9223372036854775807) (ht:t.size<=9223372036854775807) (hBw:B<=w.heap.size) :
  Calls Tryz.prog 168 #[.map (some b),.string n,.string t] w fun e w'=>qef (doA fs ⟨3,n,⟨#[]⟩,t⟩) fs B b w e w':=by
 have hkey:=qje n hn;have hkt:=qje t ht;have hik:=qmy t ht;have HSH:Hid (Shelf w B b fs):=hsh;have h30:=hok.1;rw [doA_move hok];obtain ⟨hB,D,G,hown,hsz,hin,hinj,hno⟩:=hsh;have hbl:=hown.lt
 cases hf:fileOf fs n with
 | none =>
  have hab:=hno n (qdz hf);clear hin hinj hno hok hkt;go_enter Tryz.func168,Tryz.ntmps168;go_wp2_with (at_lookup;refine qbq _ rfl _ _ 206 rfl 9 227 lawK Tryz.underlying206 (qcz _) b fs.length D rfl hown _ _ rfl hkey hab ?_);go_ret;exact ⟨rfl,HSH.out,zB⟩
 | some f =>
  obtain ⟨hm,rfl⟩:=qbv hf;obtain ⟨q1,q2,q3,q4⟩:=hin f hm;have htidy:=hown.tidy lawK;have hhas:=Maps.has_true_of_atKey q1
  have HU:Hid (∀ w1 w2 w3:World,Below w.heap.size w w1->w1.mapTurned w2 b->w3.ownsMap Tryz.prog 9 qao b (fs.length+1) ((D.del (kl f.name)).put (kl t) (.lit (.int .i64 (G f.name))))->(w2.setCell ⟨G f.name,0,none⟩ (.string t)).mapTurned w3 b->qef (some (putF ⟨t,f.text,f.kept⟩ (qag f.name fs))) fs B b w (.returned (.bool true)) w3):=by
   intro w1 w2 w3 hb1 ht2 ho ht3;have c2:∀ g X,g ≠ b->WCells w g X->WCells w2 g X:=fun g X hg hc=>qbk (hc.grow hb1) ht2.grown (fun e=>hg (by simpa using e.symm));have c3:∀ g X,g ≠ b->WCells (w2.setCell ⟨G f.name,0,none⟩ (.string t)) g X->WCells w3 g X:=fun g X hg hc=>qbk hc ht3.grown (fun e=>hg (by simpa using e.symm));have hnew:WCells (w2.setCell ⟨G f.name,0,none⟩ (.string t)) (G f.name) (qbz ⟨t,f.text,f.kept⟩):=(c2 _ _ q4 q2).set 0 (.string t) (by rw [qbb];decide);have hs2:w.heap.size<=w2.heap.size:=Nat.le_trans hb1.size ht2.grown.size;have htd:=htidy.del (kl f.name)
   have hsd:Maps.size (D.del (kl f.name))=(qag f.name fs).length:=by
    have h1:=Maps.size_del (k:=kl f.name) htidy;rw [hhas] at h1;have h2:=qdf hok.up hm;simp at h1;omega
   refine ⟨rfl,Shelf.put (D:=D.del (kl f.name)) (G:=G) (g:=G f.name) hB ho ?_ (fun f2 h2=>?_) (fun f1 h1 f2 h2 e=>hinj f1 (mem_withoutF.1 h1).1 f2 (mem_withoutF.1 h2).1 e) (fun n hn=>?_) (fun l hl=>⟨fun z=>Maps.atKey_put_other hl _ z,Maps.has_put_other hl _⟩) (fun z=>Maps.atKey_put_same (hown.isMap.del _) hik _ z) (c3 _ _ q4 hnew) (fun f2 h2 hne=>?_) (fun f2 h2 hne e=>(mem_withoutF.1 h2).2 (hinj f2 (mem_withoutF.1 h2).1 f hm e)) q3 q4,qby ((qby (hb1.mono hBw) ht2 hB (by have:=hb1.size;omega)).setCell q3 _) ht3 hB (by simp [World.setCell];omega)⟩
   ·rw [Maps.size_put htd,qhb (hok.up.without _),hsd]
    show _=(qag t (qag f.name fs)).length+1
    cases hq:Maps.has (D.del (kl f.name)) (kl t) with
    | false =>
     have:∀ f' ∈ qag f.name fs,f'.name ≠ t:=fun f' hf' e=>by
      obtain ⟨m1,m2⟩:=mem_withoutF.1 hf';rw [Maps.has_del_other (fun e'=>m2 (by rw [e];exact qjd e')),<-e,Maps.has_true_of_atKey (hin f' m1).1] at hq;cases hq
     rw [qel this];rfl
    | true =>
     have hne:t ≠ f.name:=fun e=>by rw [e,Maps.has_del_same] at hq;cases hq
     have:∃ f' ∈ qag f.name fs,f'.name=t:=Classical.byContradiction fun hc=>by
      have h1:=hno t fun f' hf' e=>hc ⟨f',mem_withoutF.2 ⟨hf',fun e'=>hne (e.symm.trans e')⟩,e⟩;rw [Maps.has_del_other (fun e'=>hne (qjd e')),h1] at hq;cases hq
     obtain ⟨f',hf',rfl⟩:=this;rw [qdf (hok.up.without _) hf'];rfl
   ·obtain ⟨m1,m2⟩:=mem_withoutF.1 h2
    exact ⟨fun z=>by rw [Maps.atKey_del_other (fun e=>m2 (qjd e))];exact (hin f2 m1).1 z,(hin f2 m1).2.2⟩
   ·by_cases e:n=f.name
    ·subst e;exact Maps.has_del_same
    ·rw [Maps.has_del_other (fun e'=>e (qjd e'))]
     exact hno n fun f' hf' e'=>hn f' (mem_withoutF.2 ⟨hf',fun e2=>e (e'.symm.trans e2)⟩) e'
   ·obtain ⟨m1,m2⟩:=mem_withoutF.1 h2
    exact c3 _ _ (hin f2 m1).2.2.2 ((c2 _ _ (hin f2 m1).2.2.2 (hin f2 m1).2.1).other _ _ (fun e=>m2 (hinj f2 m1 f hm e)))
  have hgl:=q2.1;generalize G f.name=g at *;clear hin hinj hno htidy hf hok hsz hhas;have hmx:fs.length<maxLen:=by unfold maxLen;omega
  obtain ⟨c0,_,c1,_,c2,_⟩:=bwc3 q2;simp only [Option.bind_some];generalize hR:(if f.kept=(f.text.size:Int)/\t ≠ f.name/\(1<=t.size/\t.size<=8) then some (putF ⟨t,f.text,f.kept⟩ (qag f.name fs)) else none)=R;have HR:Hid ((if f.kept=(f.text.size:Int)/\t ≠ f.name/\(1<=t.size/\t.size<=8) then some (putF ⟨t,f.text,f.kept⟩ (qag f.name fs)) else none)=R):=hR;clear hR;go_enter Tryz.func168,Tryz.ntmps168;go_wp2_with (at_lookup;refine qdj _ rfl _ _ 206 rfl 9 227 lawK Tryz.underlying206 (qcz _) b fs.length D rfl hown _ _ rfl hkey g q1 ?_);refine (allKept_any f _).mono ?_;generalize hD:decide (f.kept=(f.text.size:Int))=K;rintro e w1 ⟨rfl,hb1⟩;have HB1:Hid (Below w.heap.size w w1):=hb1;have hown1:=own_below' hown hb1;have hq1:=(q2.grow hb1).2 0 _ rfl;clear hb1 c0 c1 c2
  cases K with
  | false =>
   have HE:Hid (R=none):=HR.out.symm.trans (if_neg (fun h=>of_decide_eq_false hD h.1));clear HU hq1;go_wp2_with fail;go_ret;rw [HE.out];exact ⟨rfl,HSH.out.keep HB1.out,HB1.out.mono hBw⟩
  | true =>
   have hK:f.kept=(f.text.size:Int):=of_decide_eq_true hD;have HK:Hid (f.kept=(f.text.size:Int)):=hK;clear hD hK
   by_cases hne:t=f.name
   ·have HE:Hid (R=none):=HR.out.symm.trans (if_neg (fun h=>h.2.1 hne))
    have he:(t.toList==f.name.toList)=true:=by rw [hne];simp
    clear HU hne hq1;go_wp2_with fail;go_ret;rw [HE.out];exact ⟨rfl,HSH.out.keep HB1.out,HB1.out.mono hBw⟩
   ·have he:=qqd hne
    have HNE:Hid (t ≠ f.name):=hne;clear hne
    by_cases h2:decide (1<=t.size/\t.size<=8)=true
    ·have HE:Hid (R=some (putF ⟨t,f.text,f.kept⟩ (qag f.name fs))):=HR.out.symm.trans (if_pos ⟨HK.out,HNE.out,of_decide_eq_true h2⟩)
     go_wp2_with fail;refine (qav t _ true h2).mono ?_;intro e w2 hw2;obtain ⟨rfl,hww⟩:=hw2;rw [hww];clear hww w2;go_wp2_with (first | (at_delete;refine wpList_delete_own _ rfl _ _ 206 9 rfl 227 lawK Tryz.underlying206 qao b fs.length D rfl hown1 _ _ rfl hkey ?_;intro w2 hown2 hturn2;have hd1:=(cell_grown hturn2.grown ⟨g,0,none⟩ (Nat.lt_of_lt_of_le hgl HB1.out.size) (fun e=>q4 (by simpa using e.symm))).trans hq1.1;have hd2:=(qdh hturn2.grown ⟨g,0,none⟩ (Nat.lt_of_lt_of_le hgl HB1.out.size) (fun e=>q4 (by simpa using e.symm))).trans hq1.2;have hown3:=hown2.setCell (a:=⟨g,0,none⟩) (fun e=>q4 e.symm) (.string t)) | (at_mapUpdate;refine wpList_mapUpdate_in _ rfl _ _ _ 206 rfl 9 227 lawK Tryz.underlying206 qao b fs.length (D.del (kl f.name)) rfl hown3 hmx _ _ _ rfl rfl hkt (.lit (.int .i64 g)) [] rfl ?_;intro w3 hown4 hturn4));go_ret;rw [HE.out];exact HU.out w1 w2 w3 HB1.out hturn2 hown4 hturn4
    ·have h2':decide (1<=t.size/\t.size<=8)=false:=by simpa using h2
     have HE:Hid (R=none):=HR.out.symm.trans (if_neg (fun h=>of_decide_eq_false h2' h.2.2));clear HU hq1;go_wp2_with fail;refine (qav t _ false h2').mono ?_;intro e w2 hw2;obtain ⟨rfl,hww⟩:=hw2;rw [hww];clear hww w2;go_wp2_with fail;go_ret;rw [HE.out];exact ⟨rfl,HSH.out.keep HB1.out,HB1.out.mono hBw⟩
theorem qeg {s:ByteArray} (h:s ≠ ⟨#[]⟩):s.toList.isEmpty=false:=by
 rw [ByteArray.toList_eq]
 cases hs:s.data.toList with
 | nil=>exact absurd (ByteArray.ext (by simpa using hs)) h
 | cons x xs=>rfl
theorem addR (b B:Nat) (fs:List FM) (n t:ByteArray) (w:World) (R:Option (List FM)) (hR:doA fs ⟨1,n,t,⟨#[]⟩⟩=R) (hsh:Shelf w B b fs) (hok:DOk fs) (hn:n.size<=9223372036854775807) (ht:t.size<=1048576) (hBw:B<=w.heap.size) :
  Calls Tryz.prog 166 #[.map (some b),.string n,.string t] w fun e w'=>qef R fs B b w e w':=hR ▸ shAdd_any b B fs n t w hsh hok hn ht hBw
theorem keepR (b B:Nat) (fs:List FM) (n:ByteArray) (w:World) (R:Option (List FM)) (hR:doA fs ⟨2,n,⟨#[]⟩,⟨#[]⟩⟩=R) (hsh:Shelf w B b fs) (hok:DOk fs) (hn:n.size<=9223372036854775807) :
  Calls Tryz.prog 167 #[.map (some b),.string n] w fun e w'=>qef R fs B b w e w':=by
 rw [<-hR,doA_keep hok];exact keep_any b B fs n w hsh hok hn
theorem dropR (b B:Nat) (fs:List FM) (n:ByteArray) (w:World) (R:Option (List FM)) (hR:doA fs ⟨4,n,⟨#[]⟩,⟨#[]⟩⟩=R) (hsh:Shelf w B b fs) (hok:DOk fs) (hn:n.size<=9223372036854775807) :
  Calls Tryz.prog 169 #[.map (some b),.string n] w fun e w'=>qef R fs B b w e w':=by
 rw [<-hR,doA_drop hok];exact drop_any b B fs n w hsh hok hn
theorem moveR (b B:Nat) (fs:List FM) (n t:ByteArray) (w:World) (R:Option (List FM)) (hR:doA fs ⟨3,n,⟨#[]⟩,t⟩=R) (hsh:Shelf w B b fs) (hok:DOk fs) (hn:n.size<=9223372036854775807) (ht:t.size<=9223372036854775807) (hBw:B<=w.heap.size) :
  Calls Tryz.prog 168 #[.map (some b),.string n,.string t] w fun e w'=>qef R fs B b w e w':=hR ▸ move_any b B fs n t w hsh hok hn ht hBw
theorem do_any (b B:Nat) (fs:List FM) (a:AM) (w:World) (hsh:Shelf w B b fs) (hok:DOk fs) (hn:a.name.size<=9223372036854775807) (ht:a.text.size<=1048576) (ho:a.dst.size<=9223372036854775807) (hBw:B<=w.heap.size) :
  Calls Tryz.prog 132 #[.map (some b),av a] w fun e w'=>qef (doA fs a) fs B b w e w':=by
 obtain ⟨k,n,t,o⟩:=a;have HSH:Hid (Shelf w B b fs):=hsh;have HOK:Hid (DOk fs):=hok;have hBa:∀ x:Obj,B<=(w.alloc x).heap.size:=fun x=>by simp;omega
 simp only at hn ht ho;clear hsh hok
 by_cases ht0:t=⟨#[]⟩
 ·by_cases ho0:o=⟨#[]⟩
  ·subst ht0 ho0
   by_cases k1:k=1
   ·subst k1
    have HB:Hid (Below w.heap.size w (w.alloc (.cells #[.int .i64 1,.string n,.string ⟨#[]⟩,.string ⟨#[]⟩] 98))):=zB.alloc zL _;generalize hRe:doA fs ⟨1,n,⟨#[]⟩,⟨#[]⟩⟩=R at *;have HRe:Hid (doA fs ⟨1,n,⟨#[]⟩,⟨#[]⟩⟩=R):=hRe;clear hRe;go_enter Tryz.func132,Tryz.ntmps132;go_wp2_with fail;refine (addR b B fs n ⟨#[]⟩ _ R HRe.out (HSH.out.keep HB.out) HOK.out hn ht (hBa _)).mono ?_;rintro e w1 ⟨he,hs1,hb1⟩;subst he;go_wp2_with fail;go_ret;exact ⟨rfl,hs1,(HB.out.mono hBw).trans hb1⟩
   ·by_cases k2:k=2
    ·subst k2
     have HB:Hid (Below w.heap.size w (w.alloc (.cells #[.int .i64 2,.string n,.string ⟨#[]⟩,.string ⟨#[]⟩] 98))):=zB.alloc zL _;generalize hRe:doA fs ⟨2,n,⟨#[]⟩,⟨#[]⟩⟩=R at *;have HRe:Hid (doA fs ⟨2,n,⟨#[]⟩,⟨#[]⟩⟩=R):=hRe;clear hRe;go_enter Tryz.func132,Tryz.ntmps132;go_wp2_with fail;refine (keepR b B fs n _ R HRe.out (HSH.out.keep HB.out) HOK.out hn).mono ?_;rintro e w1 ⟨he,hs1,hb1⟩;subst he;go_wp2_with fail;go_ret;exact ⟨rfl,hs1,(HB.out.mono hBw).trans hb1⟩
    ·by_cases k3:k=3
     ·subst k3
      have HB:Hid (Below w.heap.size w (w.alloc (.cells #[.int .i64 3,.string n,.string ⟨#[]⟩,.string ⟨#[]⟩] 98))):=zB.alloc zL _;generalize hRe:doA fs ⟨3,n,⟨#[]⟩,⟨#[]⟩⟩=R at *;have HRe:Hid (doA fs ⟨3,n,⟨#[]⟩,⟨#[]⟩⟩=R):=hRe;clear hRe;go_enter Tryz.func132,Tryz.ntmps132;go_wp2_with fail;refine (moveR b B fs n ⟨#[]⟩ _ R HRe.out (HSH.out.keep HB.out) HOK.out hn ho (hBa _)).mono ?_;rintro e w1 ⟨he,hs1,hb1⟩;subst he;go_wp2_with fail;go_ret;exact ⟨rfl,hs1,(HB.out.mono hBw).trans hb1⟩
     ·by_cases k4:k=4
      ·subst k4
       have HB:Hid (Below w.heap.size w (w.alloc (.cells #[.int .i64 4,.string n,.string ⟨#[]⟩,.string ⟨#[]⟩] 98))):=zB.alloc zL _;generalize hRe:doA fs ⟨4,n,⟨#[]⟩,⟨#[]⟩⟩=R at *;have HRe:Hid (doA fs ⟨4,n,⟨#[]⟩,⟨#[]⟩⟩=R):=hRe;clear hRe;go_enter Tryz.func132,Tryz.ntmps132;go_wp2_with fail;refine (dropR b B fs n _ R HRe.out (HSH.out.keep HB.out) HOK.out hn).mono ?_;rintro e w1 ⟨he,hs1,hb1⟩;subst he;go_wp2_with fail;go_ret;exact ⟨rfl,hs1,(HB.out.mono hBw).trans hb1⟩
      ·rw [qpu ⟨k1,k2,k3,k4⟩]
       have HB:Hid (Below w.heap.size w (w.alloc (.cells #[.int .i64 k,.string n,.string ⟨#[]⟩,.string ⟨#[]⟩] 98))):=zB.alloc zL _;go_enter Tryz.func132,Tryz.ntmps132;go_wp2_with fail;go_ret;exact ⟨rfl,HSH.out.keep HB.out,HB.out.mono hBw⟩
  ·subst ht0
   have hoe:o.toList.isEmpty=false:=qeg ho0
   by_cases k3:k=3
   ·subst k3
    clear ho0;have HB:Hid (Below w.heap.size w (w.alloc (.cells #[.int .i64 3,.string n,.string ⟨#[]⟩,.string o] 98))):=zB.alloc zL _;generalize hRe:doA fs ⟨3,n,⟨#[]⟩,o⟩=R at *;have HRe:Hid (doA fs ⟨3,n,⟨#[]⟩,o⟩=R):=hRe;clear hRe;go_enter Tryz.func132,Tryz.ntmps132;go_wp2_with fail;refine (moveR b B fs n o _ R HRe.out (HSH.out.keep HB.out) HOK.out hn ho (hBa _)).mono ?_;rintro e w1 ⟨he,hs1,hb1⟩;subst he;go_wp2_with fail;go_ret;exact ⟨rfl,hs1,(HB.out.mono hBw).trans hb1⟩
   ·by_cases k1:k=1
    ·subst k1
     rw [qdg (.inr ⟨(by decide:(1:Int) ≠ 3),ho0⟩)];have HB:Hid (Below w.heap.size w (w.alloc (.cells #[.int .i64 1,.string n,.string ⟨#[]⟩,.string o] 98))):=zB.alloc zL _;clear ho0;go_enter Tryz.func132,Tryz.ntmps132;go_wp2_with fail;go_ret;exact ⟨rfl,HSH.out.keep HB.out,HB.out.mono hBw⟩
    ·rw [qdg (.inr ⟨k3,ho0⟩)]
     have HB:Hid (Below w.heap.size w (w.alloc (.cells #[.int .i64 k,.string n,.string ⟨#[]⟩,.string o] 98))):=zB.alloc zL _;have k3':(k != 3)=true:=by simpa using k3
     have k1':(k != 1)=true:=by simpa using k1
     clear ho0 k1 k3;go_enter Tryz.func132,Tryz.ntmps132;go_wp2_with fail;go_ret;exact ⟨rfl,HSH.out.keep HB.out,HB.out.mono hBw⟩
 ·have hte:t.toList.isEmpty=false:=qeg ht0
  by_cases k1:k=1
  ·subst k1
   by_cases ho0:o=⟨#[]⟩
   ·subst ho0
    clear ht0;have HB:Hid (Below w.heap.size w (w.alloc (.cells #[.int .i64 1,.string n,.string t,.string ⟨#[]⟩] 98))):=zB.alloc zL _;generalize hRe:doA fs ⟨1,n,t,⟨#[]⟩⟩=R at *;have HRe:Hid (doA fs ⟨1,n,t,⟨#[]⟩⟩=R):=hRe;clear hRe;go_enter Tryz.func132,Tryz.ntmps132;go_wp2_with fail;refine (addR b B fs n t _ R HRe.out (HSH.out.keep HB.out) HOK.out hn ht (hBa _)).mono ?_;rintro e w1 ⟨he,hs1,hb1⟩;subst he;go_wp2_with fail;go_ret;exact ⟨rfl,hs1,(HB.out.mono hBw).trans hb1⟩
   ·have hoe:o.toList.isEmpty=false:=qeg ho0
    rw [qdg (.inr ⟨(by decide:(1:Int) ≠ 3),ho0⟩)];have HB:Hid (Below w.heap.size w (w.alloc (.cells #[.int .i64 1,.string n,.string t,.string o] 98))):=zB.alloc zL _;clear ho0 ht0;go_enter Tryz.func132,Tryz.ntmps132;go_wp2_with fail;go_ret;exact ⟨rfl,HSH.out.keep HB.out,HB.out.mono hBw⟩
  ·rw [qdg (.inl ⟨k1,ht0⟩)]
   have HB:Hid (Below w.heap.size w (w.alloc (.cells #[.int .i64 k,.string n,.string t,.string o] 98))):=zB.alloc zL _;have k1':(k != 1)=true:=by simpa using k1
   clear ht0 k1;go_enter Tryz.func132,Tryz.ntmps132;go_wp2_with fail;go_ret;exact ⟨rfl,HSH.out.keep HB.out,HB.out.mono hBw⟩
end
section
variable {n:ByteArray} {fs:List FM} {g p q:Nat} {v:Value} {w:World}
theorem qfy {k:Nat} (hk:k<fs.length) (h1:(fs.getD k default).name=n) (h2:∀ j,j<k->(fs.getD j default).name ≠ n):fileOf fs n=some (fs.getD k default):=by
 unfold fileOf;rw [qbc fs k hk] at *;rw [List.find?_eq_some_iff_getElem];refine ⟨by simpa using h1,k,hk,rfl,fun j hj=>?_⟩;have:=h2 j hj;rw [qbc fs j (by omega)] at this
 simpa using this
theorem qfb (h:∀ f ∈ fs,f.name ≠ n):fileOf fs n=none:=by
 unfold fileOf;rw [List.find?_eq_none];intro f hf
 simpa using h f hf
theorem DOk.fit (h:DOk fs):FFit fs:=by
 refine ⟨by have:=h.1;omega,fun f hf=>?_⟩;have:=h.ok f hf;have h1:=this.1.2;have h2:=this.2.1;have h3:=this.2.2.1;have h4:=this.2.2.2;exact ⟨by omega,by omega,by omega,by omega⟩
theorem FFit.put (h:DOk fs) (f:FM) (h1:f.name.size<=9223372036854775807) (h2:f.text.size<=9223372036854775807) (h3:-9223372036854775808<=f.kept/\f.kept<=9223372036854775807):FFit (putF f fs)/\(putF f fs).length<=31:=by
 have hl:(putF f fs).length<=31:=by rw [qhb h.up];have:=qfi f.name fs;have:=h.1;omega
 refine ⟨⟨by omega,fun g hg=>?_⟩,hl⟩;rcases mem_putF.1 hg with rfl | ⟨hg,_⟩
 ·exact ⟨h1,h2,h3⟩
 ·exact h.fit.2 g hg
def S5 (w:World) (p q g:Nat) (v:Value) (n:ByteArray) (f:FM):Prop:=w.cell? ⟨p,0,none⟩=some v/\w.cell? ⟨q,1,none⟩=some (.string n)/\w.cell? ⟨g,0,none⟩=some (.string f.name)/\w.cell? ⟨g,1,none⟩=some (.string f.text)/\w.cell? ⟨g,2,none⟩=some (.int .i64 f.kept)
theorem S5.below {w w':World} {f:FM} (h:S5 w p q g v n f) (hb:Below w.heap.size w w'):S5 w' p q g v n f:=
 ⟨(hb.cell (p:=⟨p,0,none⟩) (qcb h.1)).trans h.1,(hb.cell (p:=⟨q,1,none⟩) (qcb h.2.1)).trans h.2.1,(hb.cell (p:=⟨g,0,none⟩) (qcb h.2.2.1)).trans h.2.2.1,(hb.cell (p:=⟨g,1,none⟩) (qcb h.2.2.2.1)).trans h.2.2.2.1,(hb.cell (p:=⟨g,2,none⟩) (qcb h.2.2.2.2)).trans h.2.2.2.2⟩
theorem S5.set {f:FM} {a:Addr} (h:S5 w p q g v n f) (u:Value) (h1:a.block ≠ p) (h2:a.block ≠ q) (h3:a.block ≠ g):S5 (w.setCell a u) p q g v n f:=by
 have oth:∀ c:Addr,a.block ≠ c.block->(w.setCell a u).cell? c=w.cell? c:=fun c hc=>World.cell?_of_block (Below.heap_setCell w a u c.block (fun e=>hc e.symm));exact ⟨(oth _ h1).trans h.1,(oth _ h2).trans h.2.1,(oth _ h3).trans h.2.2.1,(oth _ h3).trans h.2.2.2.1,(oth _ h3).trans h.2.2.2.2⟩
theorem qhz {x:AM} (h:x.kind ≠ 1) (hf:fileOf fs x.name=none):outA fs x=none:=by
 unfold outA;rw [if_neg h,hf]
end
section
open Go.Maps
theorem put_last {fs:List FM} {f:FM} (h:∀ g ∈ fs,nm g<nm f):putF f fs=fs++[f]:=by
 have h1:lessF f fs=fs:=by
  unfold lessF;rw [List.filter_eq_self];intro g hg;rw [bytesLess_eq,qcc,qcc];exact decide_eq_true (h g hg)
 have h2:moreF f fs=[]:=by
  rw [List.eq_nil_iff_forall_not_mem];intro g hg;obtain ⟨m1,m2⟩:=mem_more.1 hg;exact List.lt_asymm (h g m1) m2
 unfold putF;rw [h1,h2,List.append_nil]
theorem Shelf.empty (w:World) (B:Nat) (h:B<=w.heap.size):Shelf (w.alloc (.map #[] 0)) B w.heap.size []:=
 ⟨h,.map [],fun _=>0,World.ownsMap_made w _ _ _,rfl,by simp,by simp,fun n _=>rfl⟩
def ShOf (fs:List FM) (w:World) (e:Ending) (w':World):Prop:=∃ b,e = .returned (.map (some b))/\Shelf w' w.heap.size b fs/\Below w.heap.size w w'
theorem shelfOf_any (a:Option Addr) (fs:List FM) (cap:Nat) (w:World) (hr:FRow w a fs) (hok:DOk fs) :
  Calls Tryz.prog 131 #[.agg #[.slice a fs.length cap]] w fun e w'=>ShOf fs w e w':=by
 have HR:Hid (FRow w a fs):=hr;have HOK:Hid (DOk fs):=hok;have h30:=hok.1;have hb0:Below w.heap.size w ((w.alloc (.cells #[.slice a fs.length cap] 40)).alloc (.map #[] 0)):=(zB.alloc zL _).alloc (by simp) _;have HB0:Hid (Below w.heap.size w ((w.alloc (.cells #[.slice a fs.length cap] 40)).alloc (.map #[] 0))):=hb0;have HX:Hid (WCells ((w.alloc (.cells #[.slice a fs.length cap] 40)).alloc (.map #[] 0)) w.heap.size [.slice a fs.length cap]):=(qac w #[.slice a fs.length cap] 40).alloc _;have hs0:=Shelf.empty (w.alloc (.cells #[.slice a fs.length cap] 40)) w.heap.size (by simp);rw [World.size_alloc] at hs0;have HS0:Hid (Shelf ((w.alloc (.cells #[.slice a fs.length cap] 40)).alloc (.map #[] 0)) w.heap.size (w.heap.size+1) []):=hs0;clear hr hok hb0 hs0;have hmm:=@run_makeMap Tryz.prog;go_enter Tryz.func131,Tryz.ntmps131;go_wp2_with fail;go_loopw [10] (fun i wr=>∃ (k:Nat),i = .int .i64 k/\k<=fs.length/\Shelf wr w.heap.size (w.heap.size+1) (fs.take k)/\Below w.heap.size w wr) (fun i _=>fs.length - (intOf i).toNat)
 case atStart=>exact ⟨0,rfl,Nat.zero_le _,by simpa using HS0.out,HB0.out⟩
 case round =>
  clear HS0 HX HB0;obtain ⟨k,rfl,hk,hsh,hb⟩:=hrel;have HB:Hid (Below w.heap.size w wr):=hb
  by_cases hlt:k<fs.length
  ·obtain ⟨b,off,rfl,lb,hc⟩:=FRow.at (HR.out.stays hb) (by omega)
   obtain ⟨d0,d1,d2⟩:=hc k hlt;have hfo:=HOK.out.ok fs[k] (List.getElem_mem hlt);have hup:=HOK.out.up
   have hless:∀ g ∈ fs.take k,nm g<nm fs[k]:=fun g hg=>by
    obtain ⟨j,hj,rfl⟩:=List.getElem_of_mem hg;have hj':j<k:=by simp at hj;omega
    rw [List.getElem_take];exact List.pairwise_iff_getElem.1 hup j k (by omega) hlt hj'
   have hupk:UpN (fs.take k):=hup.sublist (List.take_sublist _ _);have hput:putF fs[k] (fs.take k)=fs.take (k+1):=by rw [put_last hless,<-qke fs k hlt]
   have hnone:∀ g ∈ fs.take k,g.name ≠ fs[k].name:=fun g hg e=>by
    have:=hless g hg;rw [show nm g=nm fs[k] by rw [nm,nm,e]] at this;exact List.lt_irrefl _ this
   have hlen:(fs.take k).length=k:=by simp;omega
   obtain ⟨f,hfe⟩:∃ f,f=fs[k]:=⟨_,rfl⟩;rw [<-hfe] at d0 d1 d2 hfo hput hnone;have hkey:=qje f.name (by have:=hfo.1.2;unfold maxLen;omega);have hik:=qmy f.name (by have:=hfo.1.2;unfold maxLen;omega);obtain ⟨hB,D,G,hown,hsz,hin,hinj,hno⟩:=hsh;have hab:=hno f.name hnone;have htidy:=hown.tidy lawK;have hbl:=hown.lt
   have HU:Hid (∀ w2:World,w2.ownsMap Tryz.prog 9 qao (w.heap.size+1) ((fs.take k).length+1) (D.put (kl f.name) (.lit (.int .i64 wr.heap.size)))->(wr.alloc (.cells #[.string f.name,.string f.text,.int .i64 f.kept] 150)).mapTurned w2 (w.heap.size+1)->Shelf w2 w.heap.size (w.heap.size+1) (fs.take (k+1))/\Below w.heap.size w w2):=by
    intro w2 ho ht;have hcell:∀ g X,g ≠ w.heap.size+1->WCells (wr.alloc (.cells #[.string f.name,.string f.text,.int .i64 f.kept] 150)) g X->WCells w2 g X:=fun g X hg hc=>qbk hc ht.grown (fun e=>hg (by simpa using e.symm));refine ⟨?_,qby (HB.out.alloc HB.out.size _) ht hB (by have:=HB.out.size;simp;omega)⟩;rw [<-hput];refine Shelf.put (D:=D) (G:=G) (g:=wr.heap.size) hB ho ?_ (fun f2 h2=>⟨(hin f2 h2).1,(hin f2 h2).2.2⟩) hinj hno (fun l hl=>⟨fun z=>Maps.atKey_put_other hl _ z,Maps.has_put_other hl _⟩) (fun z=>Maps.atKey_put_same hown.isMap hik _ z) (hcell _ _ (by omega) (qac wr #[.string f.name,.string f.text,.int .i64 f.kept] 150)) (fun f2 h2 hne=>?_) (fun f2 h2 hne=>?_) HB.out.size (by omega)
    ·rw [Maps.size_put htidy,hab,qhb hupk,qel hnone,hsz];rfl
    ·exact hcell _ _ (hin f2 h2).2.2.2 ((hin f2 h2).2.1.alloc _)
    ·have:=(hin f2 h2).2.1.1;omega
   have hown1:=hown.alloc (.cells #[.string f.name,.string f.text,.int .i64 f.kept] 150);have hmx:(fs.take k).length<maxLen:=by unfold maxLen;omega
   have k0:(0:Int)<=(k:Int):=by omega
   have k1:(k:Int)<(fs.length:Int):=by omega
   clear hfe hc hb hless hup hupk hput hnone hin hinj hno htidy hfo hown hab;go_wp2_with (at_mapUpdate;refine wpList_mapUpdate_in _ rfl _ _ _ 206 rfl 9 227 lawK Tryz.underlying206 qao (w.heap.size+1) (fs.take k).length D rfl hown1 hmx _ _ _ rfl rfl hkey (.lit (.int .i64 wr.heap.size)) [] rfl ?_;intro w2 hown2 hturn2);obtain ⟨h1,h2⟩:=HU.out w2 hown2 hturn2;go_roundw
   case rel=>exact ⟨k+1,by go_num,by omega,h1,h2⟩
   case measure=>simp [intOf];omega
  ·have e:k=fs.length:=by omega
   subst e;rw [List.take_length] at hsh;clear hb;go_wp2_with fail;go_ret;exact ⟨_,rfl,hsh,HB.out⟩
end
end Go.Proofs.YtackbhpgdohimaaGreatDoor
