/- Texts of ours, laid one behind the other: DiskQ, DiskL, DiskM, LawD, LsAm, SvR, SchZ, Words, VarL, SpnA, PathM, TreM, TreP, TreQ, TvA, StrV, PathA, PathB, PathC, GrwA, EdA, EdC. -/
import Derived.Test.YtackbhpgdohimaaGreatDoorQk2
import Derived.Test.YtackbhpgdohimaaGreatDoorQk1
import Derived.Deep.AppendLies
import Derived.Deep.RegionLaw
import Derived.Deep.RegionHeld3
import Derived.BigQuiet
import Derived.PlainAid
import Derived.Deep.CutRange
/- DiskQ: . -/
namespace Go.Proofs.YtackbhpgdohimaaGreatDoor
set_option maxRecDepth 100000
set_option maxHeartbeats 16000000
open Go.RowKit
attribute [local go_sem ↓] Go.wp_at_zero Go.wp_at_succ
section
variable {L:List Value} {B n:Nat} {row:Option Nat} {t:TypeId} {v:Value} {w w':World}
def MadeDisk (fs:List FM) (w:World) (e:Ending) (w':World):Prop:=∃ v,e = .returned (.agg #[v])/\w'.ownsRow w.heap.size 150 3 v fs.length (fcs fs)/\Below w.heap.size w w'
theorem qrl (w:World) (B t:Nat):w.ownsRow B t 3 (.slice none 0 0) 0 []:=⟨by simp,.inl ⟨rfl,rfl⟩⟩
theorem qbd (h:w.ownsRow B t 3 v n L):∃ a c,v = .slice a n c:=by
 obtain ⟨h1,⟨rfl,rfl⟩ | ⟨g,cap,cur,e,rest⟩⟩:=h
 ·exact ⟨none,0,rfl⟩
 ·exact ⟨_,_,e⟩
theorem qaz {B C n:Nat} (h:w.ownsRow B t 3 v n L) (hC:C<=B):w.ownsRow C t 3 v n L:=by
 obtain ⟨h1,h | ⟨g,cap,cur,e,hB,rest⟩⟩:=h
 ·exact ⟨h1,.inl h⟩
 ·exact ⟨h1,.inr ⟨g,cap,cur,e,Nat.le_trans hC hB,rest⟩⟩
theorem qgi (ys:List FM) (f:FM):fcs (ys++[f])=fcs ys++[.string f.name,.string f.text,.int .i64 f.kept]:=by simp [fcs,qbz]
theorem qax {B n g:Nat} (h:w.ownsRow B t 3 v n L) (hg:g<B) (p:Addr) (hp:p.block=g) (x:Value) (e:w'=w.setCell p x):w'.ownsRow B t 3 v n L:=by
 subst e;refine h.kept (row:=some g) ⟨rfl,rfl,rfl,by simp [World.setCell],fun k hk hne=>?_⟩ ?_
 ·exact Below.heap_setCell w p x k (fun e=>hne (by rw [hp] at e;rw [e]))
 ·cases hv:v.ownBlock with
  | none=>exact .inl rfl
  | some j=>right;have:=(h.lt j hv).1;simp;omega
theorem qcy (h:w.ownsRow B t 3 v n L) (hb:Below w.heap.size w w'):w'.ownsRow B t 3 v n L:=
 h.kept (row:=none) ⟨hb.os,hb.tape,hb.output,hb.size,fun k hk _=>hb.block k hk⟩ (by
  cases hv:v.ownBlock with
  | none=>exact .inl rfl
  | some j=>right;simp)
theorem cell_grown (hg:w.grownBy w' row) (p:Addr) (hp:p.block<w.heap.size) (hr:row ≠ some p.block):w'.cell? p=w.cell? p:=
 World.cell?_of_block (w:=w) (hg.block p.block hp (fun e=>hr e.symm))
theorem qdh (hg:w.grownBy w' row) (p:Addr) (hp:p.block<w.heap.size) (hr:row ≠ some p.block):w'.frozen? p=w.frozen? p:=
 World.frozen?_of_block (w:=w) (hg.block p.block hp (fun e=>hr e.symm))
theorem qjj {wr w1:World} {o:Obj} {B gv n m:Nat} {v v1:Value} {L0 L:List Value} (hv:WCells wr gv [v]) (hgv:gv<B) (hown:wr.ownsRow B t 3 v n L0) (hgrow:((wr.alloc o).drew).grownBy w1 v.ownBlock) (hown1:w1.ownsRow B t 3 v1 m L) :
  (∀ g X,g<B->g ≠ gv->WCells wr g X->WCells (w1.setCell ⟨gv,0,none⟩ v1) g X)/\WCells (w1.setCell ⟨gv,0,none⟩ v1) gv [v1]/\(w1.setCell ⟨gv,0,none⟩ v1).ownsRow B t 3 v1 m L /\
  ∀ C w0,C<=gv->Below C w0 wr->Below C w0 (w1.setCell ⟨gv,0,none⟩ v1):=by
 have hob:∀ c,c<B->v.ownBlock ≠ some c:=fun c hc e=>by have:=(hown.lt c e).1;omega
 have one:∀ g X,g<B->WCells wr g X->WCells w1 g X:=fun g X hg h=>qbk (w:=(wr.alloc o).drew) (h.alloc o) hgrow (hob g hg);refine ⟨fun g X hg hne h=>(one g X hg h).other _ _ (by simpa using hne),?_,qax hown1 hgv _ rfl _ rfl,fun C w0 hC hb=>?_⟩
 ·exact (one gv [v] hgv hv).set 0 v1 (by simp)
 ·have h0:=hv.1
  have hb1:Below C w0 ((wr.alloc o).drew):=(hb.alloc (by omega) o).drew;exact (hb1.grown hgrow (by simp;omega) (fun j hj=>by have:=(hown.lt j hj).1;omega)).setCell (by simpa using hC) _
def qag (n:ByteArray) (fs:List FM):List FM:=fs.filter (fun f=>!decide (f.name=n))
theorem without_step (n:ByteArray) (fs:List FM) (k:Nat) (h:k<fs.length):qag n (fs.take (k+1))=qag n (fs.take k)++(if fs[k].name=n then [] else [fs[k]]):=by
 unfold qag;rw [List.take_succ_eq_append_getElem h,List.filter_append]
 by_cases c:fs[k].name=n <;> simp [c]
theorem qfi (n:ByteArray) (fs:List FM):(qag n fs).length<=fs.length:=List.length_filter_le _ _
theorem qgx (a:Option Addr) (fs:List FM) (cap:Nat) (n:ByteArray) (w:World) (hr:FRow w a fs) (hl:fs.length<=1048576) :
  Calls Tryz.prog 99 #[.agg #[.slice a fs.length cap],.string n] w fun e w'=>MadeDisk (qag n fs) w e w':=by
 obtain ⟨i0,hi,hz0,hz1,hz2⟩:=info_parts qfh;have HR:Hid (FRow w a fs):=hr;have hx0:=((qac w #[.slice a fs.length cap] 40).alloc (.cells #[.slice none 0 0] 40)).alloc (.cells #[.slice none 0 0] 40);have hy0:=(qac (w.alloc (.cells #[.slice a fs.length cap] 40)) #[.slice none 0 0] 40).alloc (.cells #[.slice none 0 0] 40);have hv0:=qac ((w.alloc (.cells #[.slice a fs.length cap] 40)).alloc (.cells #[.slice none 0 0] 40)) #[.slice none 0 0] 40;simp only [World.size_alloc] at hx0 hy0 hv0;have HX0:Hid _:=hx0;have HY0:Hid _:=hy0;have HV0:Hid _:=hv0;clear hr hx0 hy0 hv0;go_enter Tryz.func99,Tryz.ntmps99;go_wp2_with fail
 go_loopw [6] (fun i wr=>∃ (k:Nat) (v:Value),i = .int .i64 k/\k<=fs.length/\Sh (WCells wr w.heap.size [.slice a fs.length cap])/\Sh (WCells wr (w.heap.size+1) [.slice none 0 0])/\Sh (WCells wr (w.heap.size+1+1) [v]) /\
   wr.ownsRow (w.heap.size+3) 150 3 v (qag n (fs.take k)).length (fcs (qag n (fs.take k)))/\Below w.heap.size w wr) (fun i _=>fs.length - (intOf i).toNat)
 case atStart=>exact ⟨0,.slice none 0 0,rfl,Nat.zero_le _,⟨HX0.out⟩,⟨HY0.out⟩,⟨HV0.out⟩,by simp [qag,fcs];exact qrl _ _ _,((zB.alloc zL _).alloc (by simp) _).alloc (by simp;omega) _⟩
 case round =>
  obtain ⟨k,v,rfl,hk,hx,hy,hv,hown,hb⟩:=hrel;have x0:=(hx.1.2 0 _ rfl).1;have y0:=(hy.1.2 0 _ rfl);have v0:=(hv.1.2 0 _ rfl);obtain ⟨vc,vf⟩:=v0;obtain ⟨yc,yf⟩:=y0;have HB:Hid (Below w.heap.size w wr):=hb
  by_cases hlt:k<fs.length
  ·obtain ⟨b,off,rfl,lb0,hc0⟩:=FRow.at HR.out (by omega)
   obtain ⟨d0,d1,d2⟩:=hc0 k hlt;rw [<-hb.cell (p:=⟨b,off+k*3,none⟩) lb0] at d0;rw [<-hb.cell (p:=⟨b,off+k*3+1,none⟩) lb0] at d1;rw [<-hb.cell (p:=⟨b,off+k*3+2,none⟩) lb0] at d2;have hstep:=without_step n fs k hlt;obtain ⟨f,hfe⟩:∃ f,f=fs[k]:=⟨_,rfl⟩;rw [<-hfe] at d0 d1 d2 hstep;have k0:(0:Int)<=(k:Int):=by omega
   have k1:(k:Int)<(fs.length:Int):=by omega
   have hlen:(qag n (fs.take k)).length<=1048576:=by have:=qfi n (fs.take k);simp at this;omega
   clear hfe hc0 hb
   by_cases hn:f.name=n
   ·rw [if_pos hn,List.append_nil] at hstep
    have HST:Hid (qag n (fs.take (k+1))=qag n (fs.take k)):=hstep;have hq:(f.name.toList==n.toList)=true:=by rw [hn];simp
    clear hstep hn;go_wp2_with fail;go_roundw
    case rel=>exact ⟨k+1,v,by go_num,by omega,hx,hy,hv,by rw [HST.out];exact hown,HB.out⟩
    case measure=>simp [intOf];omega
   ·rw [if_neg hn] at hstep
    have HST:Hid (qag n (fs.take (k+1))=qag n (fs.take k)++[f]):=hstep;have hq:=qqd hn;clear hstep hn;go_wp2_with fail;have hv1:w.heap.size+1+1<wr.heap.size:=hv.1.1;have hx1:w.heap.size<wr.heap.size:=hx.1.1;have lb1:b<wr.heap.size:=by omega
    have hob:∀ c,c<w.heap.size+3->v.ownBlock ≠ some c:=fun c hc e=>by have:=(hown.lt c e).1;omega
    have nb:v.ownBlock ≠ some b:=hob b (by omega);have nx:v.ownBlock ≠ some w.heap.size:=hob _ (by omega);have nv:v.ownBlock ≠ some (w.heap.size+1+1):=hob _ (by omega);have m1:w.heap.size+1+1 ≠ b:=by omega
    have m2:w.heap.size+1+1 ≠ w.heap.size:=by omega
    clear hob;go_region_law ((refine step_append_lies _ (by rfl) _ _ _ (by rfl) (w.heap.size+3) 150 i0 _ 3 40 Tryz.underlying38 hi hz0 hz1 hz2 rfl (by omega) _ _ _ (by rfl) ((hown.alloc _).drew) ⟨wr.heap.size,0,none⟩ 1 1 [.string f.name,.string f.text,.int .i64 f.kept] (by rfl) (by rfl) (World.news_of_block (cs:=#[.string f.name,.string f.text,.int .i64 f.kept]) (t:=150) (fr:=(0,0)) (heap_alloc_new wr _)) (by simp [Value.oneCell']) (by omega) (by unfold maxLen;omega) (by omega) (by simp;omega) (wr.heap.size+1) (by simp) ?_;intro gg cap1 w1 hown1 hgrow hat hlt';have vc1:=(cell_grown hgrow ⟨w.heap.size+1+1,0,none⟩ (by simp;omega) nv).trans ((hv.1.alloc _).2 0 _ rfl).1;have vf1:=(qdh hgrow ⟨w.heap.size+1+1,0,none⟩ (by simp;omega) nv).trans ((hv.1.alloc _).2 0 _ rfl).2))
    all_goals go_wp2_with fail
    all_goals
     obtain ⟨u1,u2,u3,u4⟩:=qjj hv.1 (show w.heap.size+1+1<w.heap.size+3 by omega) hown hgrow hown1;refine ⟨⟨k+1,_,by go_num,by omega,⟨u1 _ _ (by omega) (by omega) hx.1⟩,⟨u1 _ _ (by omega) (by omega) hy.1⟩,⟨u2⟩,?_,u4 _ _ (by omega) HB.out⟩,by simp [intOf];omega⟩;rw [HST.out,qgi,List.length_append];exact u3
  ·have e:k=fs.length:=by omega
   subst e;rw [List.take_length] at hown;clear hb;obtain ⟨va,vcap,rfl⟩:=qbd hown;go_wp2_with fail
   show bodyPost Tryz.prog Tryz.f99 _ Exit.ret _ _
   refine bodyPost_ret (v:=.agg #[.slice va (qag n fs).length vcap]) (by simp [results,Tryz.results99,go_sem,yc]) rfl ⟨_,rfl,?_,HB.out.setCell (by simp) _⟩;exact qaz (qax hown (show w.heap.size+1<w.heap.size+3 by omega) _ rfl _ rfl) (by omega)
def ImplDiskOk:Prop:=∀ (a:Option Addr) (fs:List FM) (cap:Nat) (w:World),FRow w a fs->FFit fs->fs.length<=1048576->Calls Tryz.prog 130 #[.agg #[.slice a fs.length cap]] w fun e w'=>e = .returned (.bool (dOkB fs))/\Below w.heap.size w w'

def qcr (fs:List FM) (r:Value) (w:World) (e:Ending) (w':World):Prop:=
 ∃ va c,e = .returned (.tuple #[.agg #[.slice va fs.length c],r])/\FRw w' va (fcs fs) w.heap.size w'.heap.size/\fs.length<=c/\Below w.heap.size w w'
theorem markDisk_row (va:Option Addr) (xs:List FM) (k ca lo hi:Nat) (w:World) (h:FRw w va (fcs xs) lo hi) (hk:0<k) (hn:k+3*xs.length<=1000000000) (hca:xs.length<=ca) :
  Calls Tryz.prog 32 #[.agg #[.slice va xs.length ca],.int .i64 k] w fun e w'=>e = .returned (.int .i64 (k+3*xs.length:Nat))/\FRw w' va (fcs (qdn k xs.length)) lo hi/\∃ row,w.grownBy w' row/\∀ g,row=some g->lo<=g/\g<hi:=by
 rcases h with ⟨rfl,hX⟩ | ⟨g,rfl,h1,h2,h3⟩
 ·have e:xs=[]:=by
   cases xs with
   | nil=>rfl
   | cons x xs=>simp [fcs,qbz] at hX
  subst e;refine (markDisk_none none k ca w).mono ?_;rintro e w' ⟨rfl,hb⟩;exact ⟨by simp,.inl ⟨rfl,by simp [qdn,fcs]⟩,none,⟨hb.os,hb.tape,hb.output,hb.size,fun k hk _=>hb.block k hk⟩,by simp⟩
 ·refine (markDisk_any g xs k ca w h3 hk hn hca).mono ?_
  rintro e w' ⟨rfl,h4,h5⟩;exact ⟨rfl,.inr ⟨g,rfl,h1,h2,h4⟩,some g,h5,fun g' e=>by simp at e;omega⟩
def markL (k:Nat):LsM:=⟨mt (k),((k+1:Nat):Int),((k+2:Nat):Int)⟩
def qfn (k n:Nat):List LsM:=(List.range n).map fun j=>markL (k+3*j)
theorem qir (k n:Nat):(qfn k n).length=n:=by simp [qfn]
theorem qof (k n j:Nat) (h:j<(qfn k n).length):(qfn k n)[j]=markL (k+3*j):=by simp [qfn]
theorem marksL_all {k n:Nat} {ys:List LsM} (hl:ys.length=n) (h:∀ t,t<n->ys[t]?=some (markL (k+3*t))):ys=qfn k n:=by
 apply List.ext_getElem
 ·rw [hl,qir]
 ·intro i h1 h2
  rw [qof];have:=h i (by omega);rw [List.getElem?_eq_getElem h1] at this;exact Option.some.inj this
theorem markLeaseS_zero (a:Option Addr) (k ca:Nat) (w:World) :
  Calls Tryz.prog 33 #[.slice a 0 ca,.int .i64 k] w fun e w'=>e = .returned (.int .i64 k)/\w'=w:=by
 go_enter Tryz.func33,Tryz.ntmps33;go_wp2_with fail;go_rounds 1
 go_ret;exact ⟨rfl,rfl⟩
theorem markLeaseS_all (g:Nat) (xs:List LsM) (k ca:Nat) (w:World) (ha:WCells w g (lsS xs)) (hk:0<k) (hn:k+3*xs.length<=1000000000) (hca:xs.length<=ca) :
  Calls Tryz.prog 33 #[.slice (some ⟨g,0,none⟩) xs.length ca,.int .i64 k] w fun e w'=>e = .returned (.int .i64 (k+3*xs.length:Nat))/\WCells w' g (lsS (qfn k xs.length))/\w.grownBy w' (some g):=by
 obtain ⟨n,hnx⟩:∃ n,n=xs.length:=⟨_,rfl⟩;have HN:=zS hnx;rw [<-hnx];rw [<-hnx] at hn hca;clear hnx;have HA:=zS ha;clear ha;go_enter Tryz.func33,Tryz.ntmps33;go_wp2_with fail;go_loopw [1,5] (fun c i wr=>∃ (j:Nat) (ys:List LsM),i = .int .i64 j/\c = .int .i64 (k+3*j:Nat)/\j<=n/\Sh (ys.length=n/\(∀ t,t<j->ys[t]?=some (markL (k+3*t)))/\WCells wr g (lsS ys)/\w.grownBy wr (some g))) (fun _ i _=>n - (intOf i).toNat)
 case atStart=>exact ⟨0,xs,rfl,rfl,Nat.zero_le _,⟨HN.1.symm,fun t ht=>by omega,HA.1,grownBy_below zB⟩⟩
 case round =>
  obtain ⟨j,ys,rfl,rfl,hj,HH⟩:=hrel
  by_cases hlt:j<n
  ·have j0:(0:Int)<=(j:Int):=by omega
   have j1:(j:Int)<(n:Int):=by omega
   have hly:(lsS ys).length=n*3:=by rw [qkk,HH.1.1]
   have hw0:=HH.1.2.2.1
   have Q0:Sh (∀ W:World,Calls Tryz.prog 78 #[.int .i64 ((k:Int)+3*(j:Int))] W fun e w'=>e = .returned (.string (mt (k+3*j)))/\Below W.heap.size W w'):=⟨fun W=>by
    have q:=qbp (k+3*j) W (by omega) (by omega)
    rwa [show ((k+3*j:Nat):Int)=(k:Int)+3*(j:Int) by push_cast;omega] at q⟩
   go_wp2_with fail;refine (Q0.1 _).mono ?_;rintro e w0 ⟨rfl,hb0⟩;have hv0:=hw0.grow hb0;obtain ⟨c0,z0⟩:=hv0.2 (j*3) _ (List.getElem?_eq_getElem (by first | omega | (simp only [List.length_set];omega)));have HS0:Sh (WCells (w0.setCell ⟨g,j*3,none⟩ (.string (mt (k+3*j)))) g ((lsS ys).set (j*3) (.string (mt (k+3*j))))):=⟨hv0.set (j*3) _ (by first | omega | (simp only [List.length_set];omega))⟩;have HG0:Sh (w.grownBy (w0.setCell ⟨g,j*3,none⟩ (.string (mt (k+3*j)))) (some g)):=⟨(qbm (qbm HH.1.2.2.2 (grownBy_below hb0)) (grownBy_setCell _ g _ _))⟩;obtain ⟨c1,z1⟩:=HS0.1.2 (j*3+1) _ (List.getElem?_eq_getElem (by first | omega | (simp only [List.length_set];omega)));have HS1:Sh (WCells ((w0.setCell ⟨g,j*3,none⟩ (.string (mt (k+3*j)))).setCell ⟨g,j*3+1,none⟩ (.int .i64 ((k:Int)+3*(j:Int)+1))) g (((lsS ys).set (j*3) (.string (mt (k+3*j)))).set (j*3+1) (.int .i64 ((k:Int)+3*(j:Int)+1)))):=⟨HS0.1.set (j*3+1) _ (by first | omega | (simp only [List.length_set];omega))⟩;have HG1:Sh (w.grownBy ((w0.setCell ⟨g,j*3,none⟩ (.string (mt (k+3*j)))).setCell ⟨g,j*3+1,none⟩ (.int .i64 ((k:Int)+3*(j:Int)+1))) (some g)):=⟨(qbm HG0.1 (grownBy_setCell _ g _ _))⟩;obtain ⟨c2,z2⟩:=HS1.1.2 (j*3+2) _ (List.getElem?_eq_getElem (by first | omega | (simp only [List.length_set];omega)));have HS2:Sh (WCells (((w0.setCell ⟨g,j*3,none⟩ (.string (mt (k+3*j)))).setCell ⟨g,j*3+1,none⟩ (.int .i64 ((k:Int)+3*(j:Int)+1))).setCell ⟨g,j*3+2,none⟩ (.int .i64 ((k:Int)+3*(j:Int)+1+1))) g ((((lsS ys).set (j*3) (.string (mt (k+3*j)))).set (j*3+1) (.int .i64 ((k:Int)+3*(j:Int)+1))).set (j*3+2) (.int .i64 ((k:Int)+3*(j:Int)+1+1)))):=⟨HS1.1.set (j*3+2) _ (by first | omega | (simp only [List.length_set];omega))⟩
   have HG2:Sh (w.grownBy (((w0.setCell ⟨g,j*3,none⟩ (.string (mt (k+3*j)))).setCell ⟨g,j*3+1,none⟩ (.int .i64 ((k:Int)+3*(j:Int)+1))).setCell ⟨g,j*3+2,none⟩ (.int .i64 ((k:Int)+3*(j:Int)+1+1))) (some g)):=⟨(qbm HG1.1 (grownBy_setCell _ g _ _))⟩
   have hE:(⟨mt (k+3*j),(k:Int)+3*(j:Int)+1,(k:Int)+3*(j:Int)+1+1⟩:LsM)=markL (k+3*j):=by
    unfold markL
    congr 1 <;> (push_cast;omega)
   have HF:Sh (WCells (((w0.setCell ⟨g,j*3,none⟩ (.string (mt (k+3*j)))).setCell ⟨g,j*3+1,none⟩ (.int .i64 ((k:Int)+3*(j:Int)+1))).setCell ⟨g,j*3+2,none⟩ (.int .i64 ((k:Int)+3*(j:Int)+1+1))) g (lsS (ys.set j ⟨mt (k+3*j),(k:Int)+3*(j:Int)+1,(k:Int)+3*(j:Int)+1+1⟩))):=⟨by
    have hfin:((((lsS ys).set (j*3) (.string (mt (k+3*j)))).set (j*3+1) (.int .i64 ((k:Int)+3*(j:Int)+1))).set (j*3+2) (.int .i64 ((k:Int)+3*(j:Int)+1+1)))=lsS (ys.set j ⟨mt (k+3*j),(k:Int)+3*(j:Int)+1,(k:Int)+3*(j:Int)+1+1⟩):=qkt qdm ys j (by have:=HH.1.1;omega) (⟨mt (k+3*j),(k:Int)+3*(j:Int)+1,(k:Int)+3*(j:Int)+1+1⟩:LsM);have q:=HS2.1;rw [hfin] at q
    exact q⟩
   rw [hE] at HF;clear HS0 HS1 HS2 HG0 HG1 hw0 hb0 hv0 hE;go_wp2_with fail;go_roundw
   case rel =>
    refine ⟨j+1,ys.set j (markL (k+3*j)),by go_num,congrArg (Value.int .i64) (by omega),by omega,⟨by rw [List.length_set];exact HH.1.1,fun t ht=>?_,?_,?_⟩⟩
    rotate_left
    ·exact HF.1
    ·exact HG2.1
    by_cases hjt:t=j
    ·subst hjt
     rw [List.getElem?_set_self (by have:=HH.1.1;omega)]
    ·rw [List.getElem?_set_ne (Ne.symm hjt)]
     exact HH.1.2.1 t (by omega)
   case measure=>simp [intOf];omega
  ·have e:j=n:=by omega
   subst e;have hfin:=marksL_all HH.1.1 HH.1.2.1;subst hfin;go_wp2_with fail;go_ret;exact ⟨rfl,HH.1.2.2.1,HH.1.2.2.2⟩
theorem markLeaseS_row (va:Option Addr) (xs:List LsM) (k ca lo hi:Nat) (w:World) (h:FRw w va (lsS xs) lo hi) (hk:0<k) (hn:k+3*xs.length<=1000000000) (hca:xs.length<=ca) :
  Calls Tryz.prog 33 #[.slice va xs.length ca,.int .i64 k] w fun e w'=>e = .returned (.int .i64 (k+3*xs.length:Nat))/\FRw w' va (lsS (qfn k xs.length)) lo hi/\∃ row,w.grownBy w' row/\∀ g,row=some g->lo<=g/\g<hi:=by
 rcases h with ⟨rfl,hX⟩ | ⟨g,rfl,h1,h2,h3⟩
 ·have e:xs=[]:=by
   have:=congrArg List.length hX;rw [qkk] at this;exact List.eq_nil_of_length_eq_zero (by simp at this;omega)
  subst e;refine (markLeaseS_zero none k ca w).mono ?_;rintro e w' ⟨rfl,rfl⟩;exact ⟨by simp,.inl ⟨rfl,by simp [qfn,lsS]⟩,none,⟨rfl,rfl,rfl,zL,fun _ _ _=>rfl⟩,by simp⟩
 ·refine (markLeaseS_all g xs k ca w h3 hk hn hca).mono ?_
  rintro e w' ⟨rfl,h4,h5⟩;exact ⟨rfl,.inr ⟨g,rfl,h1,h2,h4⟩,some g,h5,fun g' e=>by simp at e;omega⟩
theorem heldLeaseS_any (a:Option Addr) (k n ca:Nat) (w:World) (ha:LsRow w a (qfn k n)) (hk:0<k) (hn:k+3*n<=1000000000) :
  Calls Tryz.prog 36 #[.slice a n ca,.int .i64 k] w fun e w'=>e = .returned (.int .i64 (k+3*n:Nat))/\Below w.heap.size w w':=by
 have HA:=zS ha;clear ha;go_enter Tryz.func36,Tryz.ntmps36;go_wp2_with fail;go_loopw [1,5] (fun c i wr=>∃ (j:Nat),i = .int .i64 j/\c = .int .i64 (k+3*j:Nat)/\j<=n/\Below w.heap.size w wr) (fun _ i _=>n - (intOf i).toNat)
 case atStart=>exact ⟨0,rfl,rfl,Nat.zero_le _,zB⟩
 case round =>
  obtain ⟨j,rfl,rfl,hj,hb⟩:=hrel;have HB:=zS hb
  by_cases hlt:j<n
  ·obtain ⟨b,off,rfl,lb,hc⟩:=LsRow.at (HA.1.stays hb) (by rw [qir];omega)
   obtain ⟨d0,d1,d2⟩:=hc j (by rw [qir];omega);rw [qof] at d0 d1 d2;rw [show (markL (k+3*j)).path=mt (k+3*j) from rfl] at d0;rw [show (markL (k+3*j)).who=(k:Int)+3*(j:Int)+1 by show ((k+3*j+1:Nat):Int)=_;push_cast;omega] at d1;rw [show (markL (k+3*j)).seen=(k:Int)+3*(j:Int)+1+1 by show ((k+3*j+2:Nat):Int)=_;push_cast;omega] at d2;have j0:(0:Int)<=(j:Int):=by omega
   have j1:(j:Int)<(n:Int):=by omega
   have Q0:Sh (∀ W:World,Calls Tryz.prog 78 #[.int .i64 ((k:Int)+3*(j:Int))] W fun e w'=>e = .returned (.string (mt (k+3*j)))/\Below W.heap.size W w'):=⟨fun W=>by
    have q:=qbp (k+3*j) W (by omega) (by omega)
    rwa [show ((k+3*j:Nat):Int)=(k:Int)+3*(j:Int) by push_cast;omega] at q⟩
   have hs0:((mt (k+3*j)).toList==(mt (k+3*j)).toList)=true:=by simp
   clear hc hb;go_wp2_with fail;go_region_held3 (fun w'=>w'.cell? ⟨b,off+j*3,none⟩=some (.string (mt (k+3*j)))) (first | go_keep | (rw [hb0.cell (p:=⟨b,off+j*3,none⟩) (by exact lb)];assumption)) ((go_at_call 78;refine (Q0.1 _).mono ?_;rintro e w0 ⟨rfl,hb0⟩))
   all_goals
    have lb0:b<w0.heap.size:=Nat.lt_of_lt_of_le lb hb0.size;replace d1:=(hb0.cell (p:=⟨b,off+j*3+1,none⟩) lb).trans d1;replace d2:=(hb0.cell (p:=⟨b,off+j*3+2,none⟩) lb).trans d2;have HB0:Sh (Below w.heap.size w w0):=⟨HB.1.trans ((Below.drew zB).trans (hb0.mono HB.1.size))⟩;clear hb0 d0;go_wp2_with fail;exact ⟨⟨j+1,by go_num,congrArg (Value.int .i64) (by omega),by omega,HB0.1⟩,by simp [intOf];omega⟩
  ·have e:j=n:=by omega
   subst e;go_wp2_with fail;go_ret;exact ⟨rfl,hb⟩
end
section
open BigFrame
variable {up:Bool} {gr now nx:Int} {D:List FM} {S:List Str} {r:List Value} {b cc cm dc dn hi lc ln lo:Nat} {ca da la:Option Addr} {T:TM} {c0 c1 c2 c3 c4 c5 c6:Value} {W W' w w0:World}
def In3 (lo hi l1 h1 l2 h2 l3 h3:Nat):Prop:=(lo<=l1/\h1<=hi)/\(lo<=l2/\h2<=hi)/\(lo<=l3/\h3<=hi)/\(h1<=l2\/h2<=l1)/\(h1<=l3\/h3<=l1)/\(h2<=l3\/h3<=l2)
abbrev svS (T:TM) (D:List FM) (L:List LsM) (ca:Option Addr) (cm cc:Nat) (nx:Int) (da la:Option Addr) (lo hi:Nat):Str:=
 ⟨fun W=>∃ l1 h1 l2 h2 l3 h3,In3 lo hi l1 h1 l2 h2 l3 h3/\TAns W (.agg #[.slice ca cm cc,.int .i64 nx]) T l1 h1/\FRw W da (fcs D) l2 h2/\FRw W la (lsS L) l3 h3,lo,hi⟩
abbrev shS (T:TM) (dn ln:Nat) (ca:Option Addr) (cm cc:Nat) (nx:Int) (da la:Option Addr) (lo hi:Nat):Str:=
 ⟨fun W=>∃ l1 h1 l2 h2 l3 h3,In3 lo hi l1 h1 l2 h2 l3 h3/\THeld W (.agg #[.slice ca cm cc,.int .i64 nx]) 1 T l1 h1/\FRw W da (fcs (qdn (markK 1 T.nodes) dn)) l2 h2/\FRw W la (lsS (qfn (markK 1 T.nodes+3*dn) ln)) l3 h3,lo,hi⟩
theorem svS.loc (T:TM) (D:List FM) (L:List LsM) (ca:Option Addr) (cm cc:Nat) (nx:Int) (da la:Option Addr) (lo hi:Nat):(svS T D L ca cm cc nx da la lo hi).Loc:=fun W W' l h ⟨l1,h1,l2,h2,l3,h3,hi,ht,hd,hl⟩ tu hd9=>by
 dsimp only at hd9;have:=id hi;unfold In3 at this;exact ⟨l1,h1,l2,h2,l3,h3,hi,ht.turned tu (by omega),rwS.loc _ _ l2 h2 _ _ _ _ hd tu (by dsimp only;omega),rwS.loc _ _ l3 h3 _ _ _ _ hl tu (by dsimp only;omega)⟩
theorem shS.loc (T:TM) (dn ln:Nat) (ca:Option Addr) (cm cc:Nat) (nx:Int) (da la:Option Addr) (lo hi:Nat):(shS T dn ln ca cm cc nx da la lo hi).Loc:=fun W W' l h ⟨l1,h1,l2,h2,l3,h3,hi,ht,hd,hl⟩ tu hd9=>by
 dsimp only at hd9;have:=id hi;unfold In3 at this;exact ⟨l1,h1,l2,h2,l3,h3,hi,ht.turned tu (by omega),rwS.loc _ _ l2 h2 _ _ _ _ hd tu (by dsimp only;omega),rwS.loc _ _ l3 h3 _ _ _ _ hl tu (by dsimp only;omega)⟩
theorem SL.sv {L:List LsM} {cm cc l1 h1 l2 h2 l3 h3:Nat} (h:SL w0 W S) (k:SL W W' [rwS la (lsS L) l3 h3,rwS da (fcs D) l2 h2,trS (.agg #[.slice ca cm cc,.int .i64 nx]) T l1 h1]) :
  SL w0 W' (svS T D L ca cm cc nx da la W.heap.size W'.heap.size::S):=by
 refine h.add k.bel ?_ (svS.loc _ _ _ _ _ _ _ _ _ _ _) zL zL;have a:=k.is _ (List.mem_of_getElem? (show _[0]?=some (rwS la (lsS L) l3 h3) from rfl));have b:=k.is _ (List.mem_of_getElem? (show _[1]?=some (rwS da (fcs D) l2 h2) from rfl));have c:=k.is _ (List.mem_of_getElem? (show _[2]?=some (trS (.agg #[.slice ca cm cc,.int .i64 nx]) T l1 h1) from rfl));have p:=List.pairwise_cons.1 k.apart;have q:=(List.pairwise_cons.1 p.2).1 _ zM;have p1:=p.1 _ zM;have p2:=p.1 _ (List.mem_cons_of_mem _ zM);exact ⟨l1,h1,l2,h2,l3,h3,⟨c.2.2,b.2.2,a.2.2,q.symm,p2.symm,p1.symm⟩,c.1,b.1,a.1⟩
theorem svS.at {S:SvM} (h:(svS S.tree S.disk S.leases ca cm cc nx da la lo hi).p W):∃ lo hi,SvAt W S (.agg #[.slice ca cm cc,.int .i64 nx]) da la lo hi:=by
 obtain ⟨l1,h1,l2,h2,l3,h3,_,ht,hd,hl⟩:=h;exact ⟨l1,h1,ht.see,hd.crow,hl.crow⟩
theorem svS.at9 {L:List LsM} (h:(svS T D L ca cm cc nx da la lo hi).p W) (u:Bool) (g n:Int):∃ lo hi,SvAt W ⟨u,T,g,D,L,n⟩ (.agg #[.slice ca cm cc,.int .i64 nx]) da la lo hi:=svS.at (S:=⟨u,T,g,D,L,n⟩) h
theorem qoz {row:Option Nat} (hg:W.grownBy W' row) (hr:∀ g,row=some g->lo<=g/\g<hi):Turned W W' lo hi:=by
 cases row with
 | none=>exact Turned.of_below ⟨hg.os,hg.tape,hg.output,hg.size,fun k hk=>hg.block k hk (by simp)⟩ lo hi
 | some g=>exact Turned.of_grown hg (hr g rfl).1 (hr g rfl).2
theorem SL.b5 (h:SL w0 W S) (i:Nat) (hs:S[i]?=some (bxS b (c0::c1::c2::c3::c4::r))):W.cell? ⟨b,0,none⟩=some c0/\W.cell? ⟨b,1,none⟩=some c1/\W.cell? ⟨b,2,none⟩=some c2/\W.cell? ⟨b,3,none⟩=some c3/\W.cell? ⟨b,4,none⟩=some c4:=
 ⟨(h.bx i hs 0 _ rfl).1,(h.bx i hs 1 _ rfl).1,(h.bx i hs 2 _ rfl).1,(h.bx i hs 3 _ rfl).1,(h.bx i hs 4 _ rfl).1⟩
theorem SL.b7 (h:SL w0 W S) (i:Nat) (hs:S[i]?=some (bxS b (c0::c1::c2::c3::c4::c5::c6::r))):W.cell? ⟨b,0,none⟩=some c0/\W.cell? ⟨b,1,none⟩=some c1/\W.cell? ⟨b,2,none⟩=some c2/\W.cell? ⟨b,3,none⟩=some c3/\W.cell? ⟨b,4,none⟩=some c4/\W.cell? ⟨b,5,none⟩=some c5/\W.cell? ⟨b,6,none⟩=some c6:=
 ⟨(h.bx i hs 0 _ rfl).1,(h.bx i hs 1 _ rfl).1,(h.bx i hs 2 _ rfl).1,(h.bx i hs 3 _ rfl).1,(h.bx i hs 4 _ rfl).1,(h.bx i hs 5 _ rfl).1,(h.bx i hs 6 _ rfl).1⟩
theorem SL.sub {S S':List Str} (h:SL w0 W S) (p:S'.Sublist S):SL w0 W S':=⟨h.bel,fun s hs=>h.is s (p.subset hs),h.apart.sublist p⟩
theorem SL.drop2 {a b:Str} (h:SL w0 W (a::b::S)):SL w0 W (a::S):=h.sub (.cons_cons _ (.cons _ (List.Sublist.refl _)))
theorem SL.drop3 {a b c:Str} (h:SL w0 W (a::b::c::S)):SL w0 W (a::b::S):=h.sub (.cons_cons _ (.cons_cons _ (.cons _ (List.Sublist.refl _))))
abbrev svC (up:Bool) (ca:Option Addr) (cm cc:Nat) (nx gr:Int) (da:Option Addr) (dn dc:Nat) (la:Option Addr) (ln lc:Nat) (now:Int):List Value:=[.bool up,.slice ca cm cc,.int .i64 nx,.int .i64 gr,.slice da dn dc,.slice la ln lc,.int .i64 now]
abbrev svV (up:Bool) (ca:Option Addr) (cm cc:Nat) (nx gr:Int) (da:Option Addr) (dn dc:Nat) (la:Option Addr) (ln lc:Nat) (now:Int):Value:=.agg #[.bool up,.slice ca cm cc,.int .i64 nx,.int .i64 gr,.slice da dn dc,.slice la ln lc,.int .i64 now]
abbrev svZ:Array Value:=#[.bool false,.slice none 0 0,.int .i64 0,.int .i64 0,.slice none 0 0,.slice none 0 0,.int .i64 0]
abbrev svT (W:World) (b:Nat) (up:Bool) (ca:Option Addr) (cm cc:Nat) (nx gr:Int) (da:Option Addr) (dn dc:Nat) (la:Option Addr) (ln lc:Nat) (now:Int):World:=((((((W.setCell ⟨b,0,none⟩ (.bool up)).setCell ⟨b,1,none⟩ (.slice ca cm cc)).setCell ⟨b,2,none⟩ (.int .i64 nx)).setCell ⟨b,3,none⟩ (.int .i64 gr)).setCell ⟨b,4,none⟩ (.slice da dn dc)).setCell ⟨b,5,none⟩ (.slice la ln lc)).setCell ⟨b,6,none⟩ (.int .i64 now)
theorem SL.svT (h:SL w0 W (bxS b svZ.toList::S)) (up:Bool) (ca:Option Addr) (cm cc:Nat) (nx gr:Int) (da:Option Addr) (dn dc:Nat) (la:Option Addr) (ln lc:Nat) (now:Int):SL w0 (svT W b up ca cm cc nx gr da dn dc la ln lc now) (bxS b (svC up ca cm cc nx gr da dn dc la ln lc now)::S):=
 (((((((h.put 0 rfl 0 (.bool up) (by simp)).put 0 rfl 1 (.slice ca cm cc) (by simp)).put 0 rfl 2 (.int .i64 nx) (by simp)).put 0 rfl 3 (.int .i64 gr) (by simp)).put 0 rfl 4 (.slice da dn dc) (by simp)).put 0 rfl 5 (.slice la ln lc) (by simp)).put 0 rfl 6 (.int .i64 now) (by simp))
theorem SL.c7 (h:SL w0 W S) (i:Nat) (hs:S[i]?=some (bxS b (c0::c1::c2::c3::c4::c5::c6::r))):(W.cell? ⟨b,0,none⟩=some c0/\W.cell? ⟨b,1,none⟩=some c1/\W.cell? ⟨b,2,none⟩=some c2/\W.cell? ⟨b,3,none⟩=some c3/\W.cell? ⟨b,4,none⟩=some c4/\W.cell? ⟨b,5,none⟩=some c5/\W.cell? ⟨b,6,none⟩=some c6)/\W.frozen? ⟨b,0,none⟩=false/\W.frozen? ⟨b,1,none⟩=false/\W.frozen? ⟨b,2,none⟩=false/\W.frozen? ⟨b,3,none⟩=false/\W.frozen? ⟨b,4,none⟩=false/\W.frozen? ⟨b,5,none⟩=false/\W.frozen? ⟨b,6,none⟩=false:=
 ⟨h.b7 i hs,(h.bx i hs 0 _ rfl).2,(h.bx i hs 1 _ rfl).2,(h.bx i hs 2 _ rfl).2,(h.bx i hs 3 _ rfl).2,(h.bx i hs 4 _ rfl).2,(h.bx i hs 5 _ rfl).2,(h.bx i hs 6 _ rfl).2⟩
theorem qid {L:List LsM} (h:(svS T D L ca cm cc nx da la lo hi).p w) (hdn:dn=D.length) (hln:ln=L.length) (hf:NFit T) (hd:dn<=1048576) (hl:ln<=1048576) (hdc:dn<=dc) (hlc:ln<=lc) (hlo:hi<=w.heap.size) :
  Calls Tryz.prog 11 #[.agg #[.bool up,.slice ca cm cc,.int .i64 nx,.int .i64 gr,.slice da dn dc,.slice la ln lc,.int .i64 now],.int .i64 1] w fun e w'=>e = .returned (.int .i64 (markK 1 T.nodes+3*dn+3*ln:Nat))/\(shS T dn ln ca cm cc nx da la lo hi).p w'/\Turned w w' lo hi:=by
 obtain ⟨l1,h1,l2,h2,l3,h3,hin,ht,hdr,hlr⟩:=h;have HIN:=zS (show In3 lo hi l1 h1 l2 h2 l3 h3 from hin);have HT:=zS (fun (W:World) (hb:Below w.heap.size w W)=>markTree_val 1 (ht.below hb) hf (by omega) (by omega));have HR:=zS (fun (W:World) (hb:Turned w W l1 h1)=>And.intro (rwS.loc _ _ l2 h2 w W l1 h1 hdr hb (by have:=HIN.1;unfold In3 at this;dsimp only;omega)) (rwS.loc _ _ l3 h3 w W l1 h1 hlr hb (by have:=HIN.1;unfold In3 at this;dsimp only;omega)));have hmf:=qjo hf 1 (by omega);have HMK:Sh (1<=markK 1 T.nodes):=⟨(qgs 1 T.nodes).1⟩;obtain ⟨kk,hkk⟩:∃ q,q=markK 1 T.nodes:=⟨_,rfl⟩;unfold shS;rw [<-hkk] at HT hmf HMK ⊢;have HD:=zS (fun (W:World) (q:FRw W da (fcs D) l2 h2)=>markDisk_row da D kk dc l2 h2 W q (by have:=HMK.1;omega) (by omega) (by omega));have HL:=zS (fun (W:World) (q:FRw W la (lsS L) l3 h3)=>markLeaseS_row la L (kk+3*dn) lc l3 h3 W q (by have:=HMK.1;omega) (by omega) (by omega));rw [<-hdn] at HD;rw [<-hln] at HL;have HH:=zS hlo;clear ht hdr hlr hin hf hkk hlo hmf HMK hd hl hdc hlc hdn hln;have HB:=zS ((Below.refl w.heap.size w).alloc zL (.cells #[.bool up,.slice ca cm cc,.int .i64 nx,.int .i64 gr,.slice da dn dc,.slice la ln lc,.int .i64 now] 43));have HC:=zS (qac w #[.bool up,.slice ca cm cc,.int .i64 nx,.int .i64 gr,.slice da dn dc,.slice la ln lc,.int .i64 now] 43);obtain ⟨b1,hb1⟩:∃ q,q=w.heap.size:=⟨_,rfl⟩;go_enter Tryz.func11,Tryz.ntmps11;go_upto_region 1 with fail;rw [<-hb1] at HC;refine qaa (fun W=>Below w.heap.size w W/\WCells W b1 [.bool up,.slice ca cm cc,.int .i64 nx,.int .i64 gr,.slice da dn dc,.slice la ln lc,.int .i64 now]) ⟨HB.1,HC.1⟩ ?_;intro W0 hW;rw [<-hb1];replace HB:=zS hW.1;replace HC:=zS hW.2;replace HH:=zS (show hi<=b1 by rw [hb1];exact HH.1);clear hW hb1
 have x1:=(HC.1.2 1 _ rfl).1;have x2:=(HC.1.2 2 _ rfl).1;have x4:=(HC.1.2 4 _ rfl).1;have x5:=(HC.1.2 5 _ rfl).1;go_wp2_with fail;refine (HT.1 _ (HB.1)).mono ?_;rintro e w1 ⟨rfl,hA,ht⟩;have HU:=zS ((Turned.of_below (show Below w.heap.size w W0 from HB.1) l1 h1).trans ht);obtain ⟨q2,q3⟩:=HR.1 _ HU.1;have HQ2:=zS q2;have HQ3:=zS q3;have HX:=zS hA;replace HC:=zS (HC.1.turned ht (.inr (by have:=HH.1;have:=HIN.1;unfold In3 at this;omega)));replace HU:=zS (HU.1.wide (lo':=lo) (hi':=hi) (HIN.1).1.1 (HIN.1).1.2);clear hA ht HB HT x1 x2 x4 x5 q2 q3 HR;have x1:=(HC.1.2 1 _ rfl).1;have x2:=(HC.1.2 2 _ rfl).1;have x4:=(HC.1.2 4 _ rfl).1;have x5:=(HC.1.2 5 _ rfl).1;go_wp2_with fail;refine (HD.1 _ HQ2.1).mono ?_;rintro e w2 ⟨rfl,hA,row,hg,hr⟩;have ht:=qoz hg hr;replace HX:=zS (HX.1.turned ht (by have:=HIN.1;unfold In3 at this;omega));replace HQ3:=zS (rwS.loc _ _ l3 h3 _ _ _ _ HQ3.1 ht (by have:=HIN.1;unfold In3 at this;dsimp only;omega));replace HQ2:=zS hA;replace HC:=zS (HC.1.turned ht (.inr (by have:=HH.1;have:=HIN.1;unfold In3 at this;omega)));replace HU:=zS (HU.1.trans (ht.wide (HIN.1).2.1.1 (HIN.1).2.1.2));clear hA hg hr ht HD x1 x2 x4 x5;have x1:=(HC.1.2 1 _ rfl).1;have x2:=(HC.1.2 2 _ rfl).1;have x4:=(HC.1.2 4 _ rfl).1;have x5:=(HC.1.2 5 _ rfl).1;go_wp2_with fail;refine (HL.1 _ HQ3.1).mono ?_;rintro e w3 ⟨rfl,hA,row,hg,hr⟩;have ht:=qoz hg hr;replace HX:=zS (HX.1.turned ht (by have:=HIN.1;unfold In3 at this;omega));replace HQ2:=zS (rwS.loc _ _ l2 h2 _ _ _ _ HQ2.1 ht (by have:=HIN.1;unfold In3 at this;dsimp only;omega));replace HQ3:=zS hA;replace HU:=zS (HU.1.trans (ht.wide (HIN.1).2.2.1.1 (HIN.1).2.2.1.2));clear hA hg hr ht HL x1 x2 x4 x5 HC;go_wp2_with fail;go_ret;exact ⟨rfl,⟨l1,h1,l2,h2,l3,h3,HIN.1,HX.1,HQ2.1,HQ3.1⟩,HU.1⟩
theorem heldServer_sv (h:(shS T dn ln ca cm cc nx da la lo hi).p w) (hf:NFit T) (hd:dn<=1048576) (hl:ln<=1048576) :
  Calls Tryz.prog 12 #[.agg #[.bool up,.slice ca cm cc,.int .i64 nx,.int .i64 gr,.slice da dn dc,.slice la ln lc,.int .i64 now],.int .i64 1] w fun e w'=>e = .returned (.int .i64 (markK 1 T.nodes+3*dn+3*ln:Nat))/\Below w.heap.size w w':=by
 obtain ⟨l1,h1,l2,h2,l3,h3,hin,ht,hdr,hlr⟩:=h;have HT:=zS (fun (W:World) (hb:Below w.heap.size w W)=>heldTree_val (ht.below hb) hf (by omega) (by omega));have hmf:=qjo hf 1 (by omega);have HMK:Sh (1<=markK 1 T.nodes):=⟨(qgs 1 T.nodes).1⟩;obtain ⟨kk,hkk⟩:∃ q,q=markK 1 T.nodes:=⟨_,rfl⟩;rw [<-hkk] at HT hmf HMK hdr hlr ⊢;have HD:=zS (fun (W:World) (hb:Below w.heap.size w W)=>heldDisk_any da kk dn dc W ((show FRow w da (qdn kk dn) from hdr.crow).stays hb) (by have:=HMK.1;omega) (by omega));have HL:=zS (fun (W:World) (hb:Below w.heap.size w W)=>heldLeaseS_any la (kk+3*dn) ln lc W ((show LsRow w la (qfn (kk+3*dn) ln) from hlr.crow).stays hb) (by have:=HMK.1;omega) (by omega));have hn1:¬ (kk:Int)<0:=by omega
 have hn2:¬ ((kk+3*dn:Nat):Int)<0:=by omega
 have hn3:¬ ((kk+3*dn+3*ln:Nat):Int)<0:=by omega
 clear ht hdr hlr hin hf hkk hmf HMK hd hl;obtain ⟨k2,hk2⟩:∃ q,q=kk+3*dn:=⟨_,rfl⟩;rw [<-hk2] at HD HL hn2 hn3 ⊢;obtain ⟨k3,hk3⟩:∃ q,q=k2+3*ln:=⟨_,rfl⟩;rw [<-hk3] at HL hn3 ⊢;clear hk2 hk3;have HB:=zS ((Below.refl w.heap.size w).alloc zL (.cells #[.bool up,.slice ca cm cc,.int .i64 nx,.int .i64 gr,.slice da dn dc,.slice la ln lc,.int .i64 now] 43));have HC:=zS (qac w #[.bool up,.slice ca cm cc,.int .i64 nx,.int .i64 gr,.slice da dn dc,.slice la ln lc,.int .i64 now] 43);obtain ⟨b1,hb1⟩:∃ q,q=w.heap.size:=⟨_,rfl⟩;go_enter Tryz.func12,Tryz.ntmps12;go_upto_region 1 with fail;rw [<-hb1] at HC;refine qaa (fun W=>Below w.heap.size w W/\WCells W b1 [.bool up,.slice ca cm cc,.int .i64 nx,.int .i64 gr,.slice da dn dc,.slice la ln lc,.int .i64 now]) ⟨HB.1,HC.1⟩ ?_;intro W0 hW;rw [<-hb1];replace HB:=zS hW.1;replace HC:=zS hW.2;clear hW hb1;have x1:=(HC.1.2 1 _ rfl).1;have x2:=(HC.1.2 2 _ rfl).1;have x4:=(HC.1.2 4 _ rfl).1;have x5:=(HC.1.2 5 _ rfl).1;go_wp2_with fail;refine (HT.1 _ HB.1).mono ?_;rintro e wHT ⟨rfl,hb⟩;replace HB:=zS (HB.1.trans (hb.mono HB.1.size));replace HC:=zS (HC.1.grow hb);clear hb x1 x2 x4 x5;have x1:=(HC.1.2 1 _ rfl).1;have x2:=(HC.1.2 2 _ rfl).1;have x4:=(HC.1.2 4 _ rfl).1;have x5:=(HC.1.2 5 _ rfl).1;go_wp2_with fail;refine (HD.1 _ HB.1).mono ?_;rintro e wHD ⟨rfl,hb⟩;replace HB:=zS (HB.1.trans (hb.mono HB.1.size));replace HC:=zS (HC.1.grow hb);clear hb x1 x2 x4 x5;have x1:=(HC.1.2 1 _ rfl).1;have x2:=(HC.1.2 2 _ rfl).1;have x4:=(HC.1.2 4 _ rfl).1;have x5:=(HC.1.2 5 _ rfl).1;go_wp2_with fail;refine (HL.1 _ HB.1).mono ?_;rintro e wHL ⟨rfl,hb⟩;replace HB:=zS (HB.1.trans (hb.mono HB.1.size));replace HC:=zS (HC.1.grow hb);clear hb x1 x2 x4 x5;go_wp2_with fail;go_ret;exact ⟨rfl,HB.1⟩
end
def schK (s:Int):Nat:=if s=1 then 2 else if s=2 then 3 else if s=3 then 4 else 0
def schM (s:Int):Nat:=if s=1 then 1 else if s=2 then 2 else if s=3 then 2 else 0
def schOk (s:Int):Bool:=decide (s=1)||decide (s=2)||decide (s=3)
theorem qhy {s:Int} (h:schOk s=true):s=1\/s=2\/s=3:=by
 unfold schOk at h;simp only [Bool.or_eq_true,decide_eq_true_eq] at h;omega
theorem qqq {s:Int} (h:schOk s=false):s ≠ 1/\s ≠ 2/\s ≠ 3:=by
 unfold schOk at h;simp only [Bool.or_eq_false_iff,decide_eq_false_iff_not] at h;omega
theorem qgo {s:Int} (h:schOk s=true):2<=schK s/\schK s<=4/\1<=schM s/\schM s<=2:=by
 rcases qhy h with rfl | rfl | rfl <;> decide
theorem qgp {s:Int} (h:schOk s=false):schK s=0/\schM s=0:=by
 obtain ⟨h1,h2,h3⟩:=qqq h;unfold schK schM;rw [if_neg h1,if_neg h2,if_neg h3,if_neg h1,if_neg h2,if_neg h3];exact ⟨rfl,rfl⟩
def qhf (s:Int) (w:World) (e:Ending) (w':World):Prop:=e = .returned (.tuple #[.int .i64 (schK s:Nat),.int .i64 (schM s:Nat),.bool (schOk s)])/\w'=w
theorem specSchema (s:Int) (w:World):Calls Tryz.prog 172 #[.int .i64 s] w fun e w'=>qhf s w e w':=by
 cases h:schOk s with
 | true =>
  obtain rfl | rfl | rfl:=qhy h
  all_goals
   clear h;go_enter Tryz.func172,Tryz.ntmps172;go_wp2_with fail;go_ret3
   exact ⟨rfl,rfl⟩
 | false =>
  obtain ⟨h1,h2,h3⟩:=qqq h;obtain ⟨e1,e2⟩:=qgp h;unfold qhf;rw [e1,e2,h];clear h e1 e2;go_enter Tryz.func172,Tryz.ntmps172;go_wp2_with fail;go_ret3
  exact ⟨rfl,rfl⟩
end Go.Proofs.YtackbhpgdohimaaGreatDoor
namespace Go.Proofs.YtackbhpgdohimaaGreatDoor.W
def vtF:Nat->Nat->List UInt8
 | 0,n=>[UInt8.ofNat n]
 | f+1,n=>if 127<n then UInt8.ofNat (n % 128+128)::vtF f (n / 128) else [UInt8.ofNat n]
def vt (n:Nat):List UInt8:=vtF n n
theorem qmo:∀ (f g n:Nat),n<=f->n<=g->vtF f n=vtF g n
 | 0,0,n,_,_=>rfl
 | 0,g+1,n,h,_=>by have:n=0:=(by omega);subst this;simp [vtF]
 | f+1,0,n,_,h=>by have:n=0:=(by omega);subst this;simp [vtF]
 | f+1,g+1,n,h1,h2=>by
  unfold vtF
  by_cases h:127<n
  ·rw [if_pos h,if_pos h,qmo f g (n / 128) (by omega) (by omega)]
  ·rw [if_neg h,if_neg h]
theorem vt_big (n:Nat) (h:127<n):vt n=UInt8.ofNat (n % 128+128)::vt (n / 128):=by
 unfold vt
 match n,h with
 | k+1,h =>
  rw [vtF,if_pos h,qmo k ((k+1) / 128) ((k+1) / 128) (by omega) (by omega)]
theorem vt_small (n:Nat) (h:n<=127):vt n=[UInt8.ofNat n]:=by
 unfold vt
 match n with
 | 0=>rfl
 | k+1=>rw [vtF,if_neg (by omega)]
theorem vt_len (n:Nat):(vt n).length<=n+1:=by
 suffices h:∀ f m,(vtF f m).length<=f+1 from h n n
 intro f
 induction f with
 | zero=>intro m;simp [vtF]
 | succ f ih =>
  intro m;unfold vtF;split
  ·have:=ih (m / 128);simp;omega
  ·simp
def val:List UInt8->Nat
 | []=>0
 | b::l=>b.toNat % 128+128*val l
def rv:Nat->Nat->Bool->List UInt8->Nat->Option (Nat × Nat)
 | _,_,_,[],_=>none
 | n,w,first,b::l,p =>
  if 1000000000<w then none
  else if 127<b.toNat then rv (n+(b.toNat - 128)*w) (w*128) false l (p+1)
  else if b.toNat=0/\first=false then none
  else if 1000000000<n+b.toNat*w then none
  else some (n+b.toNat*w,p+1)
end Go.Proofs.YtackbhpgdohimaaGreatDoor.W
namespace Go.Proofs.YtackbhpgdohimaaGreatDoor
set_option maxRecDepth 100000
set_option maxHeartbeats 16000000
open Go.RowKit
attribute [local go_sem ↓] Go.wp_at_zero Go.wp_at_succ
section
variable {x:Int} {B m n:Nat} {v v':Value} {w w1 wr:World}
theorem qpi {l:List UInt8} {o:Obj} (hB:B<=wr.heap.size) (hx:x=(m % 128+128:Nat))
  (hm:127<m) (hl:l.length+m<=n) (ht:l++W.vt m=W.vt n)
  (hown:wr.ownsRow B 5 1 v l.length (bv l)) (hb:Below B w wr)
  (hown':w1.ownsRow B 5 1 v' (l.length+1) (bv l++[.int .u8 x])) (hg:(wr.alloc o).grownBy w1 v.ownBlock) :
  ∃ l',l'.length+m / 128<=n/\l'++W.vt (m / 128)=W.vt n/\w1.ownsRow B 5 1 v' l'.length (bv l')/\Below B w w1:=by
 refine ⟨l++[UInt8.ofNat (m % 128+128)],by simp;omega,by rw [<-ht,W.vt_big m hm];simp,?_,?_⟩
 ·have e:=byte_of x (by omega) (by omega)
  rw [e,qrh] at hown';have:UInt8.ofNat x.toNat=UInt8.ofNat (m % 128+128):=by rw [hx];rfl
  rw [this] at hown'
  simpa using hown'
 ·exact (hb.alloc hB o).grown hg (by simp;omega) (fun j hj=>by have:=(hown.lt j hj).1;omega)
theorem qpj {l:List UInt8} {o:Obj} (hB:B<=wr.heap.size) (hx:x=m)
  (hm:m<=127) (ht:l++W.vt m=W.vt n)
  (hown:wr.ownsRow B 5 1 v l.length (bv l)) (hb:Below B w wr)
  (hown':w1.ownsRow B 5 1 v' (l.length+1) (bv l++[.int .u8 x])) (hg:(wr.alloc o).grownBy w1 v.ownBlock) :
  (convert 144 9 v').run Tryz.prog w1 = .ok (.string ⟨(W.vt n).toArray⟩) w1/\Below B w w1:=by
 refine ⟨?_,(hb.alloc hB o).grown hg (by simp;omega) (fun j hj=>by have:=(hown.lt j hj).1;omega)⟩;have e:=byte_of x (by omega) (by omega);rw [e,qrh] at hown';have:UInt8.ofNat x.toNat=UInt8.ofNat m:=by rw [hx];rfl
 rw [this] at hown';have hn:W.vt n=l++[UInt8.ofNat m]:=by rw [<-ht,W.vt_small m hm]
 rw [hn];exact own_string (by simpa using hown')
theorem qgv (n:Nat) (w:World) (hn:n<=1099511627776) :
  Calls Tryz.prog 92 #[.int .i64 n] w fun e w'=>e = .returned (.string ⟨(W.vt n).toArray⟩)/\Below w.heap.size w w':=by
 obtain ⟨i0,hi,hz0,hz1,hz2⟩:=info_parts Tryz.info5;go_enter Tryz.func92,Tryz.ntmps92;go_wp2_with fail;go_loopw [0,3] (fun i v wr=>∃ (m:Nat) (l:List UInt8),i = .int .i64 m/\l.length+m<=n/\l++W.vt m=W.vt n/\wr.ownsRow w.heap.size 5 1 v l.length (bv l)/\Below w.heap.size w wr) (fun i _ _=>(intOf i).toNat)
 case atStart=>exact ⟨n,[],rfl,by simp,rfl,World.ownsRow_made w #[] 0 zL (by decide) rfl,zB.alloc zL _⟩
 case round =>
  obtain ⟨m,l,rfl,hl,ht,hown,hb⟩:=hrel;have hB:=hb.size;have HT:Hid (l++W.vt m=W.vt n):=ht;clear ht
  by_cases hm:127<m
  ·go_wp2_with (at_builtin;refine wpList_append_own _ rfl _ _ 144 rfl w.heap.size 5 i0 (.int .u8 0) 1 1 Tryz.underlying144 hi hz0 hz1 hz2 rfl (by decide) _ _ _ rfl (hown.alloc _) ⟨wr.heap.size,0,none⟩ 1 1 [.int .u8 _] rfl rfl (cell_one_new _ _ _) ?c2 ?c3 ?c4 ?c5 ?_)
   case c2=>intro u hu;simp at hu;subst hu;rfl
   case c3=>unfold maxLen;omega
   case c4=>omega
   case c5=>simp;omega
   ·intro v' w1 hown' hgrow _
    obtain ⟨l',h1,h2,h3,h4⟩:=qpi hB (by omega) hm hl HT.out hown hb hown' hgrow;have H2:Hid (l'++W.vt (m / 128)=W.vt n):=h2;clear hown' hgrow hown h2;go_wp2
    go_roundw
    case rel=>exact ⟨m / 128,l',by go_num,h1,H2.out,h3,h4⟩
    case measure=>simp [intOf];omega
  ·go_wp2_with (at_builtin;refine wpList_append_own _ rfl _ _ 144 rfl w.heap.size 5 i0 (.int .u8 0) 1 1 Tryz.underlying144 hi hz0 hz1 hz2 rfl (by decide) _ _ _ rfl (hown.alloc _) ⟨wr.heap.size,0,none⟩ 1 1 [.int .u8 _] rfl rfl (cell_one_new _ _ _) ?c2 ?c3 ?c4 ?c5 ?_)
   case c2=>intro u hu;simp at hu;subst hu;rfl
   case c3=>unfold maxLen;omega
   case c4=>omega
   case c5=>simp;omega
   ·intro v' w1 hown' hgrow _
    obtain ⟨hc,h4⟩:=qpj hB (by omega) (by omega) HT.out hown hb hown' hgrow;clear hown' hgrow hown;go_wp2
    go_ret;exact ⟨rfl,h4⟩
theorem qlf (x a b:Int) (w:World) :
  Calls Tryz.prog 44 #[.int .i64 x,.int .i64 a,.int .i64 b] w fun e w'=>e = .returned (.bool (decide (a<=x)&&decide (x<=b)))/\w'=w:=by
 by_cases h:a<=x
 ·by_cases h':x<=b
  ·go_enter Tryz.func44,Tryz.ntmps44
   go_wp2
   go_ret;exact ⟨by simp [h,h'],rfl⟩
  ·go_enter Tryz.func44,Tryz.ntmps44
   go_wp2
   go_ret;exact ⟨by simp [h'],rfl⟩
 ·go_enter Tryz.func44,Tryz.ntmps44
  go_wp2
  go_ret;exact ⟨by simp;omega,rfl⟩
end
theorem isIn (x a b:Int) (w:World) (r:Bool) (h:(decide (a<=x)&&decide (x<=b))=r):Calls Tryz.prog 44 #[.int .i64 x,.int .i64 a,.int .i64 b] w fun e w'=>e = .returned (.bool r)/\w'=w:=by
 rw [<-h];exact qlf x a b w
def qbl (s:Int):Nat:=schK s*8
theorem qct (s:Int):qbl s<=32:=by
 unfold qbl
 cases h:schOk s with
 | true=>have:=(qgo h).2.1;omega
 | false=>rw [(qgp h).1];omega
theorem qia (s:Int) (w:World):Calls Tryz.prog 143 #[.int .i64 s] w fun e w'=>e = .returned (.int .i64 (qbl s:Nat))/\w'=w:=by
 have HS:=zS (fun W=>specSchema s W);unfold qhf at HS
 have hk:schK s<=4:=by
  cases h:schOk s with
  | true=>exact (qgo h).2.1
  | false=>rw [(qgp h).1];omega
 have hg:((qbl s:Nat):Int)=(schK s:Int)*4*2:=by unfold qbl;push_cast;omega
 generalize schOk s=ok at *;generalize schM s=m at *;generalize schK s=k at *;have HG:=zS hg;clear hg;go_enter Tryz.func143,Tryz.ntmps143;go_wp2_with fail;refine (HS.1 _).mono ?_;rintro e w1 ⟨rfl,rfl⟩;go_wp2_with fail;go_ret;exact ⟨by rw [HG.1];first | rfl | (simp;done) | (congr 2;omega),rfl⟩
theorem in_bool {a x b:Int} {r:Bool} (h:(decide (a<=x)&&decide (x<=b))=r):r=true↔a<=x/\x<=b:=by rw [<-h];simp
section
open Go.PlainAid (bt)
variable {p:ByteArray} {bg i:Nat}
def nameC (c:UInt8):Bool:=(decide (97<=c.toNat)&&decide (c.toNat<=122))||(decide (48<=c.toNat)&&decide (c.toNat<=57))
def nameL (l:List UInt8):Bool:=l.all nameC&&(decide (1<=l.length)&&decide (l.length<=8))
theorem qkq {l:List UInt8} (h:nameL l=true):1<=l.length/\l.length<=8:=by
 unfold nameL at h;simp only [Bool.and_eq_true,decide_eq_true_eq] at h;exact h.2
def segs:List UInt8->List (List UInt8)
 | []=>[[]]
 | c::r=>if c=47 then []::segs r else match segs r with
  | []=>[[c]]
  | h::t=>(c::h)::t
theorem qiu:∀ l,segs l ≠ []
 | []=>by simp [segs]
 | c::r=>by
  unfold segs;split
  ·simp
  ·split <;> simp
theorem qkr:∀ (l:List UInt8),(∀ c ∈ l,c ≠ 47)->segs l=[l]
 | [],_=>rfl
 | c::r,h=>by
  unfold segs;rw [if_neg (h c (by simp)),qkr r (fun x hx=>h x (by simp [hx]))]
theorem qol {c:UInt8} {r x:List UInt8} {t:List (List UInt8)} (h:c ≠ 47) (e:segs r=x::t):segs (c::r)=(c::x)::t:=by
 unfold segs;rw [if_neg h,e]
theorem qmx:∀ (a r:List UInt8),(∀ c ∈ a,c ≠ 47)->segs (a++47::r)=a::segs r
 | [],r,_=>by simp [segs]
 | c::a,r,h=>by
  exact qol (h c (by simp)) (qmx a r (fun x hx=>h x (by simp [hx])))
theorem qom:∀ (l:List UInt8),((segs l).map (47::·)).flatten=47::l
 | []=>rfl
 | c::r=>by
  have ih:=qom r;unfold segs;split
  ·rename_i e;subst e
   simp only [List.map_cons,List.flatten_cons,ih];rfl
  ·cases h:segs r with
   | nil=>exact absurd h (qiu r)
   | cons x t =>
    rw [h] at ih;simp only [List.map_cons,List.flatten_cons,List.cons_append] at ih ⊢;rw [List.cons.injEq] at ih;rw [ih.2]
def qcl:List UInt8->List (List UInt8) × Bool
 | []=>([],false)
 | c::r=>if c=47 then (if r=[] then ([],true) else if (segs r).all nameL=true/\(segs r).length<=4 then (segs r,true) else ([],false)) else ([],false)
def joinP (L:List (List UInt8)):List UInt8:=if L=[] then [47] else (L.map (47::·)).flatten
theorem qlz {p:List UInt8} (h:(qcl p).2=true):joinP (qcl p).1=p:=by
 unfold qcl at h ⊢
 cases p with
 | nil=>cases h
 | cons c r =>
  simp only at h ⊢
  by_cases hc:c=47
  ·subst hc
   rw [if_pos rfl] at h ⊢
   by_cases hr:r=[]
   ·subst hr;rfl
   ·rw [if_neg hr] at h ⊢
    by_cases hq:(segs r).all nameL=true/\(segs r).length<=4
    ·rw [if_pos hq]
     show joinP (segs r)=47::r
     unfold joinP;rw [if_neg (qiu r),qom]
    ·rw [if_neg hq] at h;cases h
  ·rw [if_neg hc] at h;cases h
theorem qhe {p:List UInt8}:(∀ l ∈ (qcl p).1,nameL l=true)/\(qcl p).1.length<=4:=by
 unfold qcl
 cases p with
 | nil=>exact ⟨by simp,by simp⟩
 | cons c r =>
  simp only;split
  ·split
   ·exact ⟨by simp,by simp⟩
   ·split
    ·rename_i q
     rw [List.all_eq_true] at q;exact q
    ·exact ⟨by simp,by simp⟩
  ·exact ⟨by simp,by simp⟩
abbrev ba (l:List UInt8):ByteArray:=⟨l.toArray⟩
abbrev lb (s:ByteArray):List UInt8:=s.data.toList
theorem ba_lb (s:ByteArray):ba (lb s)=s:=rfl
theorem lb_ba (l:List UInt8):lb (ba l)=l:=by simp [lb]
def nameB (s:ByteArray):Bool:=nameL (lb s)
def splitB (p:ByteArray):List ByteArray × Bool:=((qcl (lb p)).1.map ba,(qcl (lb p)).2)
def joinB (L:List ByteArray):ByteArray:=ba (joinP (L.map lb))
def qab (p:ByteArray):ByteArray × ByteArray × Bool:=if (splitB p).2=true/\(splitB p).1 ≠ [] then (joinB (splitB p).1.dropLast,(splitB p).1.getLastD ⟨#[]⟩,true) else (⟨#[]⟩,⟨#[]⟩,false)
theorem qon (L:List (List UInt8)):(L.map ba).map lb=L:=by
 rw [List.map_map];exact List.map_id'' (fun l=>lb_ba l) L
theorem joinB_split (h:(splitB p).2=true):joinB (splitB p).1=p:=by
 unfold joinB splitB;simp only;rw [qon,qlz h]
theorem qcm (p:ByteArray):(∀ s ∈ (splitB p).1,nameB s=true)/\(splitB p).1.length<=4:=by
 have h:=qhe (p:=lb p);refine ⟨fun s hs=>?_,?_⟩
 ·obtain ⟨l,hl,rfl⟩:=List.mem_map.1 hs
  unfold nameB;rw [lb_ba];exact h.1 l hl
 ·show ((qcl (lb p)).1.map ba).length<=4
  rw [List.length_map];exact h.2
structure PaRel (p:ByteArray) (i bg:Nat) (done:List ByteArray):Prop where
 le:bg<=i
 pos:1<=bg
 clean:∀ j,bg<=j->j<i->bt p j ≠ 47
 sofar:(segs ((lb p).drop 1)).map ba=done++(segs ((lb p).drop bg)).map ba
 names:∀ s ∈ done,nameB s=true
theorem ext_list (s:ByteArray) (a b:Nat):lb (s.extract a b)=((lb s).drop a).take (b - a):=by simp [lb,ByteArray.data_extract]
theorem bt_at {s:ByteArray} {j:Nat} (h:j<s.size):bt s j=((lb s)[j]'h).toNat:=by
 unfold bt;rw [dif_pos h];rfl
theorem qgn (hi:i<=p.size) (h:∀ j,bg<=j->j<i->bt p j ≠ 47):∀ c ∈ ((lb p).drop bg).take (i - bg),c ≠ 47:=fun c hc e=>by
 subst e;obtain ⟨j,hj,e2⟩:=List.mem_iff_getElem.1 hc;rw [List.length_take,List.length_drop] at hj;have hl:(lb p).length=p.size:=rfl;rw [List.getElem_take,List.getElem_drop] at e2;have:=h (bg+j) (by omega) (by omega);rw [bt_at (by omega)] at this;simp only [e2] at this;exact this (by decide)
theorem PaRel.start:PaRel p 1 1 []:=⟨zL,zL,fun j h1 h2=>by omega,rfl,by simp⟩
theorem PaRel.step {done:List ByteArray} (h:PaRel p i bg done) (hc:bt p i ≠ 47):PaRel p (i+1) bg done:=
 ⟨by have:=h.le;omega,h.pos,fun j h1 h2=>by
  by_cases e:j=i
  ·subst e;exact hc
  ·exact h.clean j h1 (by omega),h.sofar,h.names⟩
theorem PaRel.split {done:List ByteArray} (h:PaRel p i bg done) (hi:i<p.size) (hc:bt p i=47):(segs ((lb p).drop 1)).map ba=(done++[p.extract bg i])++(segs ((lb p).drop (i+1))).map ba:=by
 have hl:(lb p).length=p.size:=rfl
 have e:(lb p).drop bg=((lb p).drop bg).take (i - bg)++47::(lb p).drop (i+1):=by
  have h1:((lb p).drop bg).drop (i - bg)=47::(lb p).drop (i+1):=by
   rw [List.drop_drop,show bg+(i - bg)=i from by have:=h.le;omega,List.drop_eq_getElem_cons (by omega)]
   congr 1
   have:=bt_at hi;rw [hc] at this;have h2:((lb p)[i]'(by omega)).toNat=47:=by omega
   exact UInt8.toNat_inj.1 h2
  rw [<-h1,List.take_append_drop]
 rw [h.sofar,e,qmx _ _ (qgn (by omega) h.clean),List.map_cons,List.append_assoc]
 congr 1
 rw [<-ext_list,ba_lb];rfl
theorem PaRel.fin {done:List ByteArray} (h:PaRel p i bg done) (hi:i=p.size):(segs ((lb p).drop 1)).map ba=done++[p.extract bg i]:=by
 have hl:(lb p).length=p.size:=rfl;have e:(lb p).drop bg=((lb p).drop bg).take (i - bg):=by rw [List.take_of_length_le (by rw [List.length_drop];omega)]
 rw [h.sofar,e,qkr _ (qgn (by omega) h.clean),List.map_cons,List.map_nil,<-ext_list,ba_lb]
theorem PaRel.next {done:List ByteArray} (h:PaRel p i bg done) (hi:i<p.size) (hc:bt p i=47) (hn:nameB (p.extract bg i)=true):PaRel p (i+1) (i+1) (done++[p.extract bg i]):=
 ⟨zL,by omega,fun j h1 h2=>by omega,h.split hi hc,fun s hs=>by
  rcases List.mem_append.1 hs with q | q
  ·exact h.names s q
  ·simp at q;subst q;exact hn⟩
theorem qks (h1:1<p.size) (h0:bt p 0=47):splitB p=if (∀ s ∈ (segs ((lb p).drop 1)).map ba,nameB s=true)/\((segs ((lb p).drop 1)).map ba).length<=4 then ((segs ((lb p).drop 1)).map ba,true) else ([],false):=by
 have hl:(lb p).length=p.size:=rfl;unfold splitB
 have e:lb p=47::(lb p).drop 1:=by
  have:=List.drop_eq_getElem_cons (l:=lb p) (i:=0) (by omega);rw [List.drop_zero] at this;rw [this]
  congr 1
  have h2:=bt_at (s:=p) (j:=0) (by omega);rw [h0] at h2;have h3:((lb p)[0]'(by omega)).toNat=47:=by omega
  exact UInt8.toNat_inj.1 h3
 have hne:(lb p).drop 1 ≠ []:=fun e=>by have:=congrArg List.length e;rw [List.length_drop] at this;simp at this;omega
 generalize (lb p).drop 1=r at *;rw [e];unfold qcl;simp only;rw [if_pos trivial,if_neg hne,List.length_map]
 have hall:((segs r).all nameL=true)↔∀ s ∈ (segs r).map ba,nameB s=true:=by
  rw [List.all_eq_true];constructor
  ·intro h s hs
   obtain ⟨l,hl,rfl⟩:=List.mem_map.1 hs;unfold nameB;rw [lb_ba];exact h l hl
  ·intro h l hl
   have:=h (ba l) (List.mem_map.2 ⟨l,hl,rfl⟩);unfold nameB at this;rw [lb_ba] at this;exact this
 by_cases hq:(segs r).all nameL=true/\(segs r).length<=4
 ·rw [if_pos hq,if_pos ⟨hall.1 hq.1,hq.2⟩]
 ·rw [if_neg hq,if_neg (fun k=>hq ⟨hall.2 k.1,k.2⟩)];rfl
end
section
variable {id:Int} {ns:List NM}
def atI (ns:List NM) (id:Int):Int:=match ns.findIdx? (fun n=>n.id==id) with
 | some i=>(i:Int)
 | none=>-1
theorem atI_none (h:∀ n ∈ ns,n.id ≠ id):atI ns id = -1:=by
 unfold atI;rw [List.findIdx?_eq_none_iff.2 (fun n hn=>by simpa using h n hn)]
theorem qra {i:Nat} (hi:i<ns.length) (h:ns[i].id=id) (hl:∀ j,j<i->∀ hj:j<ns.length,ns[j].id ≠ id):atI ns id=(i:Int):=by
 unfold atI
 have:ns.findIdx? (fun n=>n.id==id)=some i:=by
  rw [List.findIdx?_eq_some_iff_getElem];exact ⟨hi,by simpa using h,fun j hj=>by simpa using hl j hj (by omega)⟩
 rw [this]
theorem qgc (ns:List NM) (id:Int):(atI ns id = -1/\∀ n ∈ ns,n.id ≠ id)\/∃ i,∃ hi:i<ns.length,atI ns id=(i:Int)/\ns[i].id=id:=by
 unfold atI
 cases h:ns.findIdx? (fun n=>n.id==id) with
 | none =>
  left
  exact ⟨rfl,fun n hn=>by have:=List.findIdx?_eq_none_iff.1 h n hn;simpa using this⟩
 | some i =>
  right
  obtain ⟨hi,h1,_⟩:=List.findIdx?_eq_some_iff_getElem.1 h;exact ⟨i,hi,rfl,by simpa using h1⟩
def inI (x a b:Int):Bool:=decide (a<=x)&&decide (x<=b)
theorem inI_iff {x a b:Int}:inI x a b=true↔a<=x/\x<=b:=by unfold inI;simp
def qba (s:Int) (p:PM):Bool:=inI p.group 1 100000&&inI p.len 1 (qbl s:Nat)
def sumP:List PM->Int
 | []=>0
 | p::ps=>p.len+sumP ps
theorem qlb (a b:List PM):sumP (a++b)=sumP a+sumP b:=by
 induction a with
 | nil=>simp [sumP]
 | cons p a ih=>simp only [List.cons_append,sumP,ih];omega
theorem qpe (ps:List PM) (k:Nat) (h:k<ps.length):sumP (ps.take (k+1))=sumP (ps.take k)+ps[k].len:=by
 rw [List.take_succ_eq_append_getElem h,qlb];simp [sumP]
theorem qsk {s:Int} {ps:List PM} (h:∀ p ∈ ps,qba s p=true):0<=sumP ps/\sumP ps<=32*ps.length:=by
 induction ps with
 | nil=>simp [sumP]
 | cons p ps ih =>
  have h1:=ih (fun q hq=>h q (by simp [hq]));have h2:=h p (by simp);unfold qba at h2;rw [Bool.and_eq_true,inI_iff,inI_iff] at h2;have h3:=qct s;simp only [sumP,List.length_cons]
  push_cast
  omega
def fileOk (n:NM):Bool:=inI n.schema 1 3&&(n.quota==0)&&decide (n.pieces.length<=40)&&inI n.writer 0 9&&n.pieces.all (qba n.schema)&&(sumP n.pieces==n.len)&&decide (sumP n.pieces<=1000)
def dirOk (n:NM):Bool:=inI n.schema 0 3&&inI n.quota 0 1000&&(n.len==0)&&decide (n.pieces.length=0)&&(n.writer==0)
def qbu (n:NM):Bool:=(n.id==1)&&(n.parent==0)&&decide (n.name=⟨#[]⟩)&&n.dir&&(n.schema != 0)
def climbs (ns:List NM):Nat->Int->Bool
 | 0,_=>false
 | f+1,id=>match ns.findIdx? (fun n=>n.id==id) with
  | none=>false
  | some k=>if (ns.getD k default).parent=1 then true else climbs ns f (ns.getD k default).parent
def nodeOk (T:TM) (i:Nat):Bool:=
 decide ((T.nodes.getD i default).id<T.next)&&(if i=0 then qbu (T.nodes.getD i default) else decide ((T.nodes.getD (i - 1) default).id<(T.nodes.getD i default).id)) &&
 (if (T.nodes.getD i default).dir then dirOk (T.nodes.getD i default) else fileOk (T.nodes.getD i default)) &&
 (decide (i=0)||(nameB (T.nodes.getD i default).name&&decide (0<=atI T.nodes (T.nodes.getD i default).parent)&&(T.nodes.getD (atI T.nodes (T.nodes.getD i default).parent).toNat default).dir &&
  (List.range i).all (fun j=>! (((T.nodes.getD j default).parent==(T.nodes.getD i default).parent)&&decide ((T.nodes.getD j default).name=(T.nodes.getD i default).name)))&&climbs T.nodes 4 (T.nodes.getD i default).id))
def qae (T:TM):Bool:=decide (1<=T.nodes.length)&&decide (T.nodes.length<=14)&&decide (T.next<=100000)&&(List.range T.nodes.length).all (nodeOk T)
end
section
variable {n:NM} {hi lo:Nat} {v:Value} {w:World}
theorem qrb (rs:List NR) (i:Nat) (h:i<rs.length):(nds rs)[i]'(by rw [qaf];exact h)=rs[i].nd:=by simp [nds]
theorem qgd {T:TM} (id:Int) (h:TSee w v T lo hi) (hl:T.nodes.length<=1048576):Calls Tryz.prog 50 #[v,.int .i64 id] w fun e w'=>e = .returned (.int .i64 (atI T.nodes id))/\Below w.heap.size w w':=by
 obtain ⟨a,cap,rs,rfl,hr,hm⟩:=h;obtain ⟨n,hn⟩:∃ n,n=rs.length:=⟨_,rfl⟩;have hnl:n=T.nodes.length:=by rw [hn,<-hr,qaf]
 have HN:=zS (And.intro hn hr);obtain ⟨R,hR⟩:∃ R,R=atI T.nodes id:=⟨_,rfl⟩;have HRR:=zS hR;have hn9:n<=1048576:=by omega
 rw [<-hR,<-hn];generalize T.next=nx at *;obtain ⟨W,hW⟩:∃ W,W=w.alloc (.cells #[.slice a n cap,.int .i64 nx] 37):=⟨_,rfl⟩;have HB:Sh (Below w.heap.size w W):=⟨by rw [hW];exact zB.alloc zL _⟩;have HM:=zS (hm.below HB.1);have x0:W.cell? ⟨w.heap.size,0,none⟩=some (.slice a n cap):=by rw [hW];exact ((qac w #[.slice a n cap,.int .i64 nx] 37).2 0 _ rfl).1
 clear hm hr hn hnl hR hl;go_enter Tryz.func50,Tryz.ntmps50;go_upto_region 1 with fail;rw [<-hW];clear hW;go_wp2_with fail;go_loopw [5] (fun i wr=>∃ (k:Nat),i = .int .i64 k/\k<=n/\Sh (∀ j,j<k->∀ hj:j<T.nodes.length,T.nodes[j].id ≠ id)/\wr=W) (fun i _=>n - (intOf i).toNat)
 case atStart=>exact ⟨0,rfl,Nat.zero_le _,⟨fun j hj=>by omega⟩,rfl⟩
 case round =>
  obtain ⟨k,rfl,hk,hall,rfl⟩:=hrel
  by_cases hlt:k<n
  ·have hlr:k<rs.length:=by have:=HN.1.1;omega
   have htl:k<T.nodes.length:=by rw [<-HN.1.2,qaf];exact hlr
   obtain ⟨b,off,rfl,lb,hc⟩:=TR.nat HM.1 (by omega);have d0:=(hc k hlr).1
   have hid:rs[k].nd=T.nodes[k]:=by
    have:=qrb rs k hlr;rw [<-this];simp only [HN.1.2]
   rw [hid] at d0;have k0:(0:Int)<=(k:Int):=by omega
   have k1:(k:Int)<(n:Int):=by omega
   clear hc hid
   by_cases he:T.nodes[k].id=id
   ·have HE:Sh (R=(k:Int)):=⟨by rw [HRR.1];exact qra htl he hall.1⟩
    have he':(T.nodes[k].id==id)=true:=by simpa using he
    generalize T.nodes[k].id=q at *;go_wp2_with fail;go_ret;exact ⟨by rw [HE.1];rfl,HB.1⟩
   ·have he':(T.nodes[k].id==id)=false:=by simpa using he
    have HNX:Sh (∀ j,j<k+1->∀ hj:j<T.nodes.length,T.nodes[j].id ≠ id):=⟨fun j hj hj2=>by
     by_cases e:j=k
     ·subst e;exact he
     ·exact hall.1 j (by omega) hj2⟩
    generalize T.nodes[k].id=q at *;go_wp2_with fail;go_roundw
    case rel=>exact ⟨k+1,by go_num,by omega,HNX,by first | rfl | trivial⟩
    case measure=>simp [intOf];omega
  ·have hlt':¬ (k:Int)<(n:Int):=by omega
   have HE:Sh (R = -1):=⟨by
    rw [HRR.1];refine atI_none (fun m hm=>?_);obtain ⟨j,hj,rfl⟩:=List.mem_iff_getElem.1 hm
    exact hall.1 j (by rw [<-HN.1.2,qaf] at hj;have:=HN.1.1;omega) hj⟩
   go_wp2_with fail;go_ret;exact ⟨by rw [HE.1];rfl,HB.1⟩
theorem isInI (x a b:Int) (w:World) (r:Bool) (h:inI x a b=r):Calls Tryz.prog 44 #[.int .i64 x,.int .i64 a,.int .i64 b] w fun e w'=>e = .returned (.bool r)/\w'=w:=isIn x a b w r h
theorem fileOk_no1 (h:inI n.schema 1 3=false):fileOk n=false:=by unfold fileOk;rw [h];rfl
theorem fileOk_no2 (h:n.quota ≠ 0):fileOk n=false:=by unfold fileOk;rw [show (n.quota==0)=false by simpa using h];simp
theorem fileOk_no3 (h:¬ n.pieces.length<=40):fileOk n=false:=by unfold fileOk;rw [decide_eq_false h];simp
theorem fileOk_no4 (h:inI n.writer 0 9=false):fileOk n=false:=by unfold fileOk;rw [h];simp
theorem fileOk_no5 {p:PM} (hp:p ∈ n.pieces) (h:qba n.schema p=false):fileOk n=false:=by
 have:n.pieces.all (qba n.schema)=false:=by
  cases e:n.pieces.all (qba n.schema) with
  | false=>rfl
  | true=>rw [List.all_eq_true] at e;rw [e p hp] at h;cases h
 unfold fileOk;rw [this];simp
theorem fileOk_yes (h1:inI n.schema 1 3=true) (h2:n.quota=0) (h3:n.pieces.length<=40) (h4:inI n.writer 0 9=true) (h5:∀ p ∈ n.pieces,qba n.schema p=true):fileOk n=((sumP n.pieces==n.len)&&decide (sumP n.pieces<=1000)):=by
 unfold fileOk;rw [h1,h2,decide_eq_true h3,h4,show n.pieces.all (qba n.schema)=true from List.all_eq_true.2 h5];simp
theorem specFile (r:NR) (w:World) (lo hi:Nat) (hp:RRow w r.loc (pcs r.nd.pieces) lo hi) (hpl:r.nd.pieces.length<=1048576):Calls Tryz.prog 139 #[nv r] w fun e w'=>e = .returned (.bool (fileOk r.nd))/\Below w.heap.size w w':=by
 obtain ⟨⟨id,parent,name,dir,schema,quota,len,pieces,writer⟩,loc,cap⟩:=r;obtain ⟨R,hR⟩:∃ R,R=fileOk ⟨id,parent,name,dir,schema,quota,len,pieces,writer⟩:=⟨_,rfl⟩;have HR:=zS hR;dsimp only [nv] at *;rw [<-hR];obtain ⟨np,hnp⟩:∃ np,np=pieces.length:=⟨_,rfl⟩;rw [<-hnp] at hpl ⊢;have HNP:=zS hnp;obtain ⟨W,hW⟩:∃ W,W=w.alloc (.cells #[.int .i64 id,.int .i64 parent,.string name,.bool dir,.int .i64 schema,.int .i64 quota,.int .i64 len,.slice loc np cap,.int .i64 writer] 90):=⟨_,rfl⟩;have HB:Sh (Below w.heap.size w W):=⟨by rw [hW];exact zB.alloc zL _⟩;have HC:Sh (WCells W w.heap.size [.int .i64 id,.int .i64 parent,.string name,.bool dir,.int .i64 schema,.int .i64 quota,.int .i64 len,.slice loc np cap,.int .i64 writer]):=⟨by rw [hW];exact qac w #[.int .i64 id,.int .i64 parent,.string name,.bool dir,.int .i64 schema,.int .i64 quota,.int .i64 len,.slice loc np cap,.int .i64 writer] 90⟩;have HP:=zS (hp.below HB.1);have x4:=(HC.1.2 4 _ rfl).1;have x5:=(HC.1.2 5 _ rfl).1;have x7:=(HC.1.2 7 _ rfl).1;have x8:=(HC.1.2 8 _ rfl).1;clear hp hR hnp
 cases h1:inI schema 1 3 with
 | false =>
  have HE:=zS (HR.1.trans (fileOk_no1 h1));go_enter Tryz.func139,Tryz.ntmps139;go_upto_region 1 with fail;rw [<-hW];clear hW;go_wp2_with fail;refine (isInI schema 1 3 _ false h1).mono ?_;rintro e w1 ⟨rfl,hw1⟩;obtain rfl:W=w1:=hw1.symm;clear hw1;go_wp2_with fail;go_ret;exact ⟨by rw [HE.1];rfl,HB.1⟩
 | true =>
  by_cases h2:quota=0
  case neg =>
   have HE:=zS (HR.1.trans (fileOk_no2 h2));have h2':(quota != 0)=true:=by simpa using h2
   go_enter Tryz.func139,Tryz.ntmps139;go_upto_region 1 with fail;rw [<-hW];clear hW;go_wp2_with fail;refine (isInI schema 1 3 _ true h1).mono ?_;rintro e w1 ⟨rfl,hw1⟩;obtain rfl:W=w1:=hw1.symm;clear hw1;go_wp2_with fail;go_ret;exact ⟨by rw [HE.1];rfl,HB.1⟩
  have h2':(quota != 0)=false:=by rw [h2];rfl
  have H2:=zS h2;clear h2
  by_cases h3:np<=40
  case neg =>
   have HE:=zS (HR.1.trans (fileOk_no3 (by rw [<-HNP.1];exact h3)));have h3':(40:Int)<(np:Int):=by omega
   go_enter Tryz.func139,Tryz.ntmps139;go_upto_region 1 with fail;rw [<-hW];clear hW;go_wp2_with fail;refine (isInI schema 1 3 _ true h1).mono ?_;rintro e w1 ⟨rfl,hw1⟩;obtain rfl:W=w1:=hw1.symm;clear hw1;go_wp2_with fail;go_ret;exact ⟨by rw [HE.1];rfl,HB.1⟩
  have h3':¬ (40:Int)<(np:Int):=by omega
  cases h4:inI writer 0 9 with
  | false =>
   have HE:=zS (HR.1.trans (fileOk_no4 h4));go_enter Tryz.func139,Tryz.ntmps139;go_upto_region 1 with fail;rw [<-hW];clear hW;go_wp2_with fail;refine (isInI schema 1 3 _ true h1).mono ?_;rintro e w1 ⟨rfl,hw1⟩;obtain rfl:W=w1:=hw1.symm;clear hw1;go_wp2_with fail;refine (isInI writer 0 9 _ false h4).mono ?_;rintro e w1 ⟨rfl,hw1⟩;obtain rfl:W=w1:=hw1.symm;clear hw1;go_wp2_with fail;go_ret;exact ⟨by rw [HE.1];rfl,HB.1⟩
  | true =>
   have HY:=zS (fun (q:∀ p ∈ pieces,qba schema p=true)=>HR.1.trans (fileOk_yes (n:=⟨id,parent,name,dir,schema,quota,len,pieces,writer⟩) h1 H2.1 (by rw [<-HNP.1];exact h3) h4 q));have HNO:=zS (fun (p:PM) (hp:p ∈ pieces) (q:qba schema p=false)=>HR.1.trans (fileOk_no5 (n:=⟨id,parent,name,dir,schema,quota,len,pieces,writer⟩) hp q));have x6:=(HC.1.2 6 _ rfl).1;have hg:=qct schema;obtain ⟨G,hG⟩:∃ G,G=qbl schema:=⟨_,rfl⟩;have HGS:=zS (fun W=>qia schema W);rw [<-hG] at HGS hg;have HG:=zS hG;clear hG;go_enter Tryz.func139,Tryz.ntmps139;go_upto_region 1 with fail;rw [<-hW];clear hW;go_wp2_with fail;refine (isInI schema 1 3 _ true h1).mono ?_;rintro e w1 ⟨rfl,hw1⟩;obtain rfl:W=w1:=hw1.symm;clear hw1;go_wp2_with fail;refine (isInI writer 0 9 _ true h4).mono ?_;rintro e w1 ⟨rfl,hw1⟩;obtain rfl:W=w1:=hw1.symm;clear hw1;have HX:=zS (And.intro x4 (And.intro x6 x7));clear h1 h4 x4 x5 x6 x8;go_wp2_with fail;go_loopw [3,4] (fun s i wr=>∃ (k:Nat) (z:Int),i = .int .i64 k/\s = .int .i64 z/\k<=np/\0<=z/\z<=32*k/\Sh (z=sumP (pieces.take k)/\∀ p ∈ pieces.take k,qba schema p=true)/\Sh (Below W.heap.size W wr)) (fun _ i _=>np - (intOf i).toNat)
   case atStart=>exact ⟨0,0,rfl,rfl,Nat.zero_le _,by omega,by omega,⟨rfl,by simp⟩,⟨zB⟩⟩
   case round =>
    clear x7;obtain ⟨k,z,rfl,rfl,hk,hz0,hz1,hall,hbl⟩:=hrel;have hwl:w.heap.size<W.heap.size:=HC.1.1;have x4:=(hbl.1.cell (p:=⟨w.heap.size,4,none⟩) hwl).trans HX.1.1;have x6:=(hbl.1.cell (p:=⟨w.heap.size,6,none⟩) hwl).trans HX.1.2.1;have x7:=(hbl.1.cell (p:=⟨w.heap.size,7,none⟩) hwl).trans HX.1.2.2
    by_cases hlt:k<np
    ·have hlp:k<pieces.length:=by have:=HNP.1;omega
     have k0:(0:Int)<=(k:Int):=by omega
     have k1:(k:Int)<(np:Int):=by omega
     obtain ⟨b,off,rfl,lb,hc⟩:=qmh (HP.1.below hbl.1) (by omega);obtain ⟨d0,d1⟩:=hc k hlp;have hst:=qpe pieces k hlp;have hmem:pieces[k] ∈ pieces:=List.getElem_mem hlp;have HTK:Sh (pieces.take (k+1)=pieces.take k++[pieces[k]]):=⟨List.take_succ_eq_append_getElem hlp⟩;have hbn:∀ q,Below W.heap.size W (wr.drewN q):=fun q=>hbl.1.trans ⟨rfl,rfl,rfl,zL,fun _ _=>rfl⟩;have HBN:=zS hbn;generalize pieces[k]=p at *;have HST:=zS hst;clear hc hst hbn
     cases g1:inI p.group 1 100000 with
     | false =>
      have HE:=zS (HNO.1 p hmem (by unfold qba;rw [g1];rfl));clear hbl;go_wp2_with fail;go_quiet ((go_at_call 44;exact Calls.quiet_of_same (isInI _ _ _ _ false g1)))
      go_wp2_with fail;go_ret;exact ⟨by rw [HE.1];rfl,HB.1.trans ((HBN.1 _).mono HB.1.size)⟩
     | true =>
      cases g2:inI p.len 1 (G:Int) with
      | false =>
       have HE:=zS (HNO.1 p hmem (by unfold qba;rw [<-HG.1,g1,g2];rfl));clear hbl;go_wp2_with fail;go_quiet (first | (go_at_call 143;exact Calls.quiet_of_same (HGS.1 _)) | (go_at_call 44;exact Calls.quiet_of_same (isInI _ _ _ _ true g1)) | (go_at_call 44;exact Calls.quiet_of_same (isInI _ _ _ _ false g2)))
       go_wp2_with fail;go_ret;exact ⟨by rw [HE.1];rfl,HB.1.trans ((HBN.1 _).mono HB.1.size)⟩
      | true =>
       have hok:qba schema p=true:=by unfold qba;rw [<-HG.1,g1,g2];rfl
       have hlen:=inI_iff.1 g2
       have HAL:Sh (z+p.len=sumP (pieces.take (k+1))/\∀ q ∈ pieces.take (k+1),qba schema q=true):=⟨by rw [HST.1,hall.1.1],fun q hq=>by
        rw [HTK.1] at hq;rcases List.mem_append.1 hq with h | h
        ·exact hall.1.2 q h
        ·simp at h;subst h;exact hok⟩
       clear hbl hall hok;go_wp2_with fail;go_quiet (first | (go_at_call 143;exact Calls.quiet_of_same (HGS.1 _)) | (go_at_call 44;exact Calls.quiet_of_same (isInI _ _ _ _ true g1)) | (go_at_call 44;exact Calls.quiet_of_same (isInI _ _ _ _ true g2)))
       go_wp2_with fail;go_roundw
       case rel=>exact ⟨k+1,z+p.len,by go_num,rfl,by omega,by omega,by push_cast;omega,HAL,⟨HBN.1 _⟩⟩
       case measure=>simp [intOf];omega
    ·have hlt':¬ (k:Int)<(np:Int):=by omega
     have hfull:pieces.take k=pieces:=List.take_of_length_le (by have:=HNP.1;omega);have hz:=hall.1;rw [hfull] at hz;have HE:=zS (HY.1 hz.2);have HZ:=zS hz.1;clear hfull hz hall
     by_cases e1:z=len
     ·have e1':(z==len)=true:=by simpa using e1
      by_cases e2:z<=1000
      ·have HF:Sh (R=true):=⟨by rw [HE.1,<-HZ.1];simp [e1,e1 ▸ e2]⟩
       clear HE e1;go_wp2_with fail;go_ret;exact ⟨by rw [HF.1];rfl,HB.1.trans (hbl.1.mono HB.1.size)⟩
      ·have HF:Sh (R=false):=⟨by rw [HE.1,<-HZ.1];simp;omega⟩
       clear HE e1;go_wp2_with fail;go_ret;exact ⟨by rw [HF.1];rfl,HB.1.trans (hbl.1.mono HB.1.size)⟩
     ·have e1':(z==len)=false:=by simpa using e1
      have HF:Sh (R=false):=⟨by rw [HE.1,<-HZ.1];simp [e1]⟩;clear HE e1;go_wp2_with fail;go_ret;exact ⟨by rw [HF.1];rfl,HB.1.trans (hbl.1.mono HB.1.size)⟩
def tv (l:List ByteArray):List Value:=l.map Value.string
theorem qna (l:List ByteArray) (x:ByteArray):tv l++[.string x]=tv (l++[x]):=by simp [tv]
theorem qph (l:List ByteArray):(tv l).length=l.length:=by simp [tv]
theorem Tryz.info9:(Tryz.prog.info? 9).map (fun i=>(i.zero,i.size,i.bytes))=some (some (.string ⟨#[]⟩),1,16):=by kernel_rfl
theorem qox (L:List ByteArray) (j:Nat) (h:j<L.length):(tv L)[j]?=some (.string (L.getD j ⟨#[]⟩)):=by simp [tv,List.getD,h]
def tsum:List ByteArray->Nat
 | []=>0
 | x::L=>x.size+tsum L
theorem qkz (L M:List ByteArray):tsum (L++M)=tsum L+tsum M:=by
 induction L with
 | nil=>simp [tsum]
 | cons t L ih=>simp only [List.cons_append,tsum];omega
theorem tsum_take (L:List ByteArray) (k:Nat) (h:k<L.length):tsum (L.take (k+1))=tsum (L.take k)+(L.getD k ⟨#[]⟩).size:=by
 rw [List.take_succ_eq_append_getElem h,qkz];have e:L.getD k ⟨#[]⟩=L[k]:=by simp [List.getD,h]
 rw [e];simp [tsum]
theorem qse (L:List ByteArray) (k:Nat):tsum (L.take k)<=tsum L:=by
 have:=qkz (L.take k) (L.drop k);rw [List.take_append_drop] at this;omega
def TFit (L:List ByteArray):Prop:=L.length+tsum L<=1048576
def SSee (w:World) (v:Value) (L:List ByteArray) (lo hi:Nat):Prop:=∃ (a:Option Addr) (cap:Nat),v = .slice a L.length cap/\RRow w a (tv L) lo hi
theorem SSee.below {w w':World} {L:List ByteArray} (h:SSee w v L lo hi) (hb:Below w.heap.size w w'):SSee w' v L lo hi:=by
 obtain ⟨a,cap,e,h1⟩:=h;exact ⟨a,cap,e,h1.below hb⟩
theorem qoy:(Tryz.prog.info? 9).map (fun i=>(i.zero,i.size,i.bytes))=some (some (.string ⟨#[]⟩),1,16):=by kernel_rfl
end
section
open Go.PlainAid (bt)
variable {p s:ByteArray} {L:List ByteArray} {B bg hi j k lo n:Nat} {t:TypeId} {v:Value} {w w':World}
theorem nameC_bt (h:j<s.size):nameC ((lb s)[j]'h)=((decide (97<=bt s j)&&decide (bt s j<=122))||(decide (48<=bt s j)&&decide (bt s j<=57))):=by
 unfold nameC;rw [bt_at h];generalize ((lb s)[j]'h).toNat=n;simp only [show ((97:Int)<=(n:Int))=(97<=n) from propext ⟨fun h=>by omega,fun h=>by omega⟩,show ((n:Int)<=122)=(n<=122) from propext ⟨fun h=>by omega,fun h=>by omega⟩,show ((48:Int)<=(n:Int))=(48<=n) from propext ⟨fun h=>by omega,fun h=>by omega⟩,show ((n:Int)<=57)=(n<=57) from propext ⟨fun h=>by omega,fun h=>by omega⟩]
def nameN (n:Int):Prop:=(97<=n/\n<=122)\/(48<=n/\n<=57)
theorem qoj (h:j<s.size):nameC ((lb s)[j]'h)=true↔nameN (bt s j):=by
 rw [nameC_bt h];unfold nameN;simp only [Bool.or_eq_true,Bool.and_eq_true,decide_eq_true_eq]
theorem qez (s:ByteArray):nameB s=true↔(∀ j,j<s.size->nameN (bt s j))/\1<=s.size/\s.size<=8:=by
 unfold nameB nameL;have hl:(lb s).length=s.size:=rfl;simp only [Bool.and_eq_true,decide_eq_true_eq,List.all_eq_true,hl];constructor
 ·rintro ⟨h1,h2⟩
  exact ⟨fun j hj=>(qoj hj).1 (h1 _ (List.getElem_mem hj)),h2⟩
 ·rintro ⟨h1,h2⟩
  refine ⟨fun c hc=>?_,h2⟩;obtain ⟨j,hj,rfl⟩:=List.mem_iff_getElem.1 hc;exact (qoj hj).2 (h1 j hj)
theorem qqm (h:j<s.size) (hn:¬ nameN (bt s j)):nameB s=false:=by
 cases e:nameB s with
 | false=>rfl
 | true=>exact absurd ((qez s).1 e |>.1 j h) hn
theorem qqn {a:Option Addr} (h:RRow w a (tv L) lo hi) (hp:0<L.length):∃ b off,a=some ⟨b,off,none⟩/\b<w.heap.size/\∀ j,j<L.length->w.cell? ⟨b,off+j,none⟩=some (.string (L.getD j ⟨#[]⟩)):=by
 obtain ⟨b,off,e,_,_,hb,hc⟩:=h (by rw [qph];exact hp);exact ⟨b,off,e,hb,fun j hj=>hc j _ (qox L j hj)⟩
theorem qit (s:ByteArray) (w:World) (hs:s.size<=1048576):Calls Tryz.prog 140 #[.string s] w fun e w'=>e = .returned (.bool (nameB s))/\Below w.heap.size w w':=by
 have hb:=Go.PlainAid.get_bt s;obtain ⟨r,hre⟩:∃ r,r=nameB s:=⟨_,rfl⟩;have HRE:=zS hre;rw [<-hre];clear hre;go_enter Tryz.func140,Tryz.ntmps140;go_wp2_with fail;go_loopw [3] (fun i wr=>∃ (k:Nat),i = .int .i64 k/\k<=s.size/\Sh (∀ j,j<k->nameN (bt s j))/\Sh (Below w.heap.size w wr)) (fun i _=>s.size - (intOf i).toNat)
 case atStart=>exact ⟨0,rfl,Nat.zero_le _,⟨fun j hj=>by omega⟩,⟨zB⟩⟩
 case round =>
  obtain ⟨k,rfl,hk,hall,hbl⟩:=hrel
  by_cases hlt:k<s.size
  ·have b0:=Go.PlainAid.bt_nonneg s k
   have b1:=Go.PlainAid.bt_le s k;have hlt':(k:Int)<(s.size:Int):=by omega
   have k0:(0:Int)<=(k:Int):=by omega
   have HN:=zS (fun (q:nameN (bt s k))=>show ∀ j,j<k+1->nameN (bt s j) from fun j hj=>by
    by_cases e:j=k
    ·subst e;exact q
    ·exact hall.1 j (by omega))
   have HF:=zS (fun (q:¬ nameN (bt s k))=>HRE.1.trans (qqm hlt q))
   by_cases c1:bt s k<97
   ·by_cases c2:bt s k<48
    ·have HE:=zS (HF.1 (fun q=>by unfold nameN at q;omega))
     go_wp2_with fail;go_ret;exact ⟨by rw [HE.1];rfl,hbl.1⟩
    ·by_cases c3:57<bt s k
     ·have HE:=zS (HF.1 (fun q=>by unfold nameN at q;omega))
      go_wp2_with fail;go_ret;exact ⟨by rw [HE.1];rfl,hbl.1⟩
     ·have HE:=zS (HN.1 (by unfold nameN;omega))
      go_wp2_with fail;go_roundw
      case rel=>exact ⟨k+1,by go_num,by omega,HE,hbl⟩
      case measure=>simp [intOf];omega
   ·by_cases c2:122<bt s k
    ·have HE:=zS (HF.1 (fun q=>by unfold nameN at q;omega))
     have c3:¬ bt s k<48:=by omega
     have c4:57<bt s k:=by omega
     go_wp2_with fail;go_ret;exact ⟨by rw [HE.1];rfl,hbl.1⟩
    ·have HE:=zS (HN.1 (by unfold nameN;omega))
     go_wp2_with fail;go_roundw
     case rel=>exact ⟨k+1,by go_num,by omega,HE,hbl⟩
     case measure=>simp [intOf];omega
  ·have hlt':¬ (k:Int)<(s.size:Int):=by omega
   have hin:(decide ((1:Int)<=(s.size:Int))&&decide ((s.size:Int)<=8))=r:=by
    rw [HRE.1,Bool.eq_iff_iff,qez];simp only [Bool.and_eq_true,decide_eq_true_eq];constructor
    ·intro h;exact ⟨fun j hj=>hall.1 j (by omega),by omega,by omega⟩
    ·intro h;omega
   have HI:=zS (fun W=>isIn (s.size:Int) 1 8 W _ hin);clear hin hall;go_wp2_with fail;refine (HI.1 _).mono ?_;rintro e w1 ⟨rfl,hw⟩;subst hw;go_wp2_with fail;go_ret;exact ⟨rfl,hbl.1⟩
def OPost (R:List ByteArray × Bool) (w:World) (e:Ending) (w':World):Prop:=∃ v,e = .returned (.tuple #[v,.bool R.2])/\w'.ownsRow w.heap.size 9 1 v R.1.length (tv R.1)/\Below w.heap.size w w'
theorem OPost.none {R:List ByteArray × Bool} {b:Bool} (h:R=([],b)) (ho:w'.ownsRow w.heap.size 9 1 v 0 []) (hb:Below w.heap.size w w'):OPost R w (.returned (.tuple #[v,.bool b])) w':=by
 unfold OPost;rw [h];exact ⟨v,rfl,ho,hb⟩
theorem OPost.some {R L:List ByteArray × Bool} (h:R=L) (ho:w'.ownsRow w.heap.size 9 1 v L.1.length (tv L.1)) (hb:Below w.heap.size w w'):OPost R w (.returned (.tuple #[v,.bool L.2])) w':=by
 rw [h];exact ⟨v,rfl,ho,hb⟩
theorem qht (hb:Below w.heap.size w w'):(w'.alloc (.cells #[] 9)).ownsRow w.heap.size 9 1 (.slice (.some ⟨w'.heap.size,0,none⟩) 0 0) 0 []:=World.ownsRow_made w' #[] 0 hb.size (by decide) rfl
theorem qjc (h:p.size=0\/bt p 0 ≠ 47):splitB p=([],false):=by
 have hl:(lb p).length=p.size:=rfl;unfold splitB
 cases e:lb p with
 | nil=>rfl
 | cons c r =>
  have hc:c ≠ 47:=fun q=>by
   subst q;rw [e] at hl;simp at hl;rcases h with h | h
   ·omega
   ·apply h
    have h1:0<p.size:=by omega
    rw [bt_at h1];simp only [e,List.getElem_cons_zero]
    decide
  have e2:qcl (c::r)=([],false):=by unfold qcl;exact if_neg hc
  rw [e2];rfl
theorem qlw (h:p=⟨#[47]⟩):splitB p=([],true):=by subst h;rfl
theorem one_slash (h:p.size=1) (h0:bt p 0=47):p=⟨#[47]⟩:=by
 have hl:(lb p).length=p.size:=rfl
 have e:lb p=[47]:=by
  cases e:lb p with
  | nil=>rw [e] at hl;simp at hl;omega
  | cons c r =>
   rw [e] at hl;have hr:r=[]:=List.eq_nil_of_length_eq_zero (by simp at hl;omega);subst hr
   congr 1
   have h2:=bt_at (s:=p) (j:=0) (by omega);simp only [e,List.getElem_cons_zero] at h2;rw [h0] at h2;have h3:c.toNat=47:=by omega
   exact UInt8.toNat_inj.1 h3
 have:=congrArg ba e;rw [ba_lb] at this;exact this
structure PaWay (p:ByteArray) (k bg:Nat) (done:List ByteArray):Prop where
 open':k<=p.size->PaRel p k bg done
 fin:p.size<k->(segs ((lb p).drop 1)).map ba=done/\∀ s ∈ done,nameB s=true
theorem PaWay.split {done:List ByteArray} (h:PaWay p k bg done) (hk:k<=p.size) (hc:k<p.size->bt p k=47):∃ rest,(segs ((lb p).drop 1)).map ba=(done++[p.extract bg k])++rest:=by
 by_cases e:k<p.size
 ·exact ⟨_,(h.open' hk).split e (hc e)⟩
 ·exact ⟨[],by rw [List.append_nil];exact (h.open' hk).fin (by omega)⟩
theorem PaWay.bad {done:List ByteArray} (h:PaWay p k bg done) (h1:1<p.size) (h0:bt p 0=47) (hk:k<=p.size) (hc:k<p.size->bt p k=47) (hn:nameB (p.extract bg k)=false):splitB p=([],false):=by
 obtain ⟨rest,e⟩:=h.split hk hc
 rw [qks h1 h0,if_neg (fun q=>by
  have:=q.1 (p.extract bg k) (by rw [e];simp)
  rw [hn] at this;cases this)]
theorem PaWay.next {done:List ByteArray} (h:PaWay p k bg done) (hk:k<=p.size) (hc:k<p.size->bt p k=47) (hn:nameB (p.extract bg k)=true):PaWay p (k+1) (k+1) (done++[p.extract bg k]):=by
 refine ⟨fun q=>(h.open' hk).next (by omega) (hc (by omega)) hn,fun q=>⟨(h.open' hk).fin (by omega),fun s hs=>?_⟩⟩;rcases List.mem_append.1 hs with q | q
 ·exact (h.open' hk).names s q
 ·simp at q;subst q;exact hn
theorem PaWay.step {done:List ByteArray} (h:PaWay p k bg done) (hk:k<p.size) (hc:bt p k ≠ 47):PaWay p (k+1) bg done:=⟨fun _=>(h.open' (by omega)).step hc,fun q=>by omega⟩
theorem PaWay.done {done:List ByteArray} (h:PaWay p k bg done) (h1:1<p.size) (h0:bt p 0=47) (hk:p.size<k):splitB p=if done.length<=4 then (done,true) else ([],false):=by
 obtain ⟨e,hn⟩:=h.fin hk;rw [qks h1 h0,e]
 by_cases q:done.length<=4
 ·rw [if_pos ⟨hn,q⟩,if_pos q]
 ·rw [if_neg (fun k=>q k.2),if_neg q]
theorem qhu (p:ByteArray) (w:World) (hs:p.size<=1048576):Calls Tryz.prog 87 #[.string p] w fun e w'=>OPost (splitB p) w e w':=by
 obtain ⟨i0,hi,hz0,hz1,hz2⟩:=info_parts qoy;have hb:=Go.PlainAid.get_bt p;have hal:Below w.heap.size w (w.alloc (.cells #[] 9)):=zB.alloc zL _;have HAL:=zS hal;have HOW:=zS (qht (Below.refl w.heap.size w));clear hal
 by_cases h0:p.size=0
 ·have HE:=zS (qjc (.inl h0))
  have h0':((p.size:Int)==0)=true:=by rw [h0];rfl
  go_enter Tryz.func87,Tryz.ntmps87;go_wp2_with fail;go_ret2
  exact OPost.none HE.1 HOW.1 HAL.1
 have h0':((p.size:Int)==0)=false:=by rw [beq_eq_false_iff_ne];omega
 have h0n:0<p.size:=by omega
 have h0i:(0:Int)<(p.size:Int):=by omega
 have b0:=Go.PlainAid.bt_nonneg p 0;have b1:=Go.PlainAid.bt_le p 0
 by_cases hc:bt p 0=47
 case neg =>
  have HE:=zS (qjc (.inr hc));have hc':(bt p 0 != 47)=true:=by rw [bne_iff_ne];exact hc
  go_enter Tryz.func87,Tryz.ntmps87;go_wp2_with fail;go_ret2
  exact OPost.none HE.1 HOW.1 HAL.1
 have hc':(bt p 0 != 47)=false:=by rw [hc];rfl
 have HC:=zS hc;clear hc
 by_cases h1:p=⟨#[47]⟩
 ·have HE:=zS (qlw h1)
  have h1':(p.toList==[47])=true:=by rw [h1,Go.ByteArray.toList_eq];rfl
  have HP:=zS h1;clear h1;go_enter Tryz.func87,Tryz.ntmps87;go_wp2_with fail;go_ret2
  exact OPost.none HE.1 HOW.1 HAL.1
 have h1':(p.toList==[47])=false:=by
  rw [beq_eq_false_iff_ne];intro e;rw [Go.ByteArray.toList_eq] at e;exact h1 (ByteArray.ext (Array.toList_inj.1 e))
 have hsz:1<p.size:=by
  by_cases e:p.size=1
  ·exact absurd (one_slash e HC.1) h1
  ·omega
 clear h1;go_enter Tryz.func87,Tryz.ntmps87;go_wp2_with fail;go_loopw [4,5,6] (fun v bg i wr=>∃ (k g:Nat) (done:List ByteArray) (vv:Value),vv=v/\bg = .int .i64 g/\i = .int .i64 k/\k<=p.size+1/\g<=k/\done.length<=k/\Sh (PaWay p k g done)/\Sh (wr.ownsRow w.heap.size 9 1 vv done.length (tv done))/\Sh (Below w.heap.size w wr)) (fun _ _ i _=>p.size+1 - (intOf i).toNat)
 case atStart=>exact ⟨1,1,[],_,rfl,rfl,rfl,by omega,by omega,by simp,⟨⟨fun _=>PaRel.start,fun h=>by omega⟩⟩,HOW,HAL⟩
 case round =>
  clear HOW HAL;obtain ⟨k,g,done,v,rfl,rfl,rfl,hk,hgk,hdk,hway,hown,hbl⟩:=hrel;have hB:=hbl.1.size
  by_cases hlt:k<p.size
  ·have c0:=Go.PlainAid.bt_nonneg p k
   have c1:=Go.PlainAid.bt_le p k;have k1:(k:Int)<=(p.size:Int):=by omega
   have k2:(k:Int)<(p.size:Int):=by omega
   have k3:(0:Int)<=(k:Int):=by omega
   by_cases hne:bt p k=47
   ·have hne':(bt p k != 47)=false:=by rw [hne];rfl
    have hsl:=qjs p g k hgk (by omega);have hes:(p.extract g k).size<=1048576:=by rw [ByteArray.size_extract];omega
    have HN:=zS (fun W=>qit (p.extract g k) W hes);have HNE:=zS hne;clear hne
    cases hn:nameB (p.extract g k) with
    | false =>
     have HE:=zS (hway.1.bad hsz HC.1 (by omega) (fun _=>HNE.1) hn);rw [hn] at HN;clear hn;go_wp2_with fail;refine (HN.1 _).mono ?_;rintro e w2 ⟨rfl,hb2⟩;have HB2:=zS (hbl.1.trans (hb2.mono hbl.1.size));clear hb2;go_wp2_with fail;go_ret2
     exact OPost.none HE.1 (qht HB2.1) (HB2.1.alloc HB2.1.size _)
    | true =>
     have HE:=zS (hway.1.next (by omega) (fun _=>HNE.1) hn);rw [hn] at HN;clear hn;generalize p.extract g k=x at *;go_wp2_with fail;refine (HN.1 _).mono ?_;rintro e w2 ⟨rfl,hb2⟩;have HB2:=zS (hbl.1.trans (hb2.mono hbl.1.size));have hB2:=HB2.1.size;have hown2:=hown.1.kept (row:=none) ⟨hb2.os,hb2.tape,hb2.output,hb2.size,fun k hk _=>hb2.block k hk⟩ (Classical.em _);clear hb2 HN hway hown;go_wp2_with (at_builtin;refine wpList_append_own _ rfl _ _ 136 rfl w.heap.size 9 i0 (.string ⟨#[]⟩) 1 16 Tryz.underlying136 hi hz0 hz1 hz2 rfl (by decide) _ _ _ rfl (hown2.alloc _) ⟨w2.heap.size,0,none⟩ 1 1 [.string x] rfl rfl (cell_one_new _ _ _) ?c2 ?c3 ?c4 ?c5 ?_)
     case c2=>first | rfl | (intro u hu;simp at hu;subst hu;rfl)
     case c3=>unfold maxLen;omega
     case c4=>omega
     case c5=>first | omega | (simp;omega)
     intro v' w4 hown' hgrow _;rw [qna] at hown';have Q1:Sh (w4.ownsRow w.heap.size 9 1 v' (done++[x]).length (tv (done++[x]))):=⟨by rw [List.length_append,List.length_singleton];exact hown'⟩;have Q2:=zS ((HB2.1.alloc hB2 (.cells #[.string x] 9)).grown hgrow (by simp;omega) (fun j hj=>(hown2.lt j hj).1));clear hown' hgrow hown2;go_wp2_with fail;go_roundw
     case rel=>exact ⟨k+1,k+1,_,v',rfl,by go_num,by go_num,by omega,by omega,by rw [List.length_append,List.length_singleton];omega,HE,Q1,Q2⟩
     case measure=>simp [intOf];omega
   ·have hne':(bt p k != 47)=true:=by rw [bne_iff_ne];exact hne
    have HE:=zS (hway.1.step hlt hne);go_wp2_with fail;go_roundw
    case rel=>exact ⟨k+1,g,done,v,rfl,rfl,by go_num,by omega,by omega,by omega,HE,hown,hbl⟩
    case measure=>simp [intOf];omega
  ·by_cases hek:k=p.size
   ·have k1:(k:Int)<=(p.size:Int):=by omega
    have k2:¬ (k:Int)<(p.size:Int):=by omega
    have hsl:=qjs p g k hgk (by omega);have hes:(p.extract g k).size<=1048576:=by rw [ByteArray.size_extract];omega
    have HN:=zS (fun W=>qit (p.extract g k) W hes);have HK:Hid (k=p.size):=hek;clear hek
    cases hn:nameB (p.extract g k) with
    | false =>
     have HE:=zS (hway.1.bad hsz HC.1 (by omega) (fun q=>by omega) hn);rw [hn] at HN;clear hn;go_wp2_with fail;refine (HN.1 _).mono ?_;rintro e w2 ⟨rfl,hb2⟩;have HB2:=zS (hbl.1.trans (hb2.mono hbl.1.size));clear hb2;go_wp2_with fail;go_ret2
     exact OPost.none HE.1 (qht HB2.1) (HB2.1.alloc HB2.1.size _)
    | true =>
     have HE:=zS (hway.1.next (by omega) (fun q=>by omega) hn);rw [hn] at HN;clear hn;generalize p.extract g k=x at *;go_wp2_with fail;refine (HN.1 _).mono ?_;rintro e w2 ⟨rfl,hb2⟩;have HB2:=zS (hbl.1.trans (hb2.mono hbl.1.size));have hB2:=HB2.1.size;have hown2:=hown.1.kept (row:=none) ⟨hb2.os,hb2.tape,hb2.output,hb2.size,fun k hk _=>hb2.block k hk⟩ (Classical.em _);clear hb2 HN hway hown;go_wp2_with (at_builtin;refine wpList_append_own _ rfl _ _ 136 rfl w.heap.size 9 i0 (.string ⟨#[]⟩) 1 16 Tryz.underlying136 hi hz0 hz1 hz2 rfl (by decide) _ _ _ rfl (hown2.alloc _) ⟨w2.heap.size,0,none⟩ 1 1 [.string x] rfl rfl (cell_one_new _ _ _) ?c2 ?c3 ?c4 ?c5 ?_)
     case c2=>first | rfl | (intro u hu;simp at hu;subst hu;rfl)
     case c3=>unfold maxLen;omega
     case c4=>omega
     case c5=>first | omega | (simp;omega)
     intro v' w4 hown' hgrow _;rw [qna] at hown';have Q1:Sh (w4.ownsRow w.heap.size 9 1 v' (done++[x]).length (tv (done++[x]))):=⟨by rw [List.length_append,List.length_singleton];exact hown'⟩;have Q2:=zS ((HB2.1.alloc hB2 (.cells #[.string x] 9)).grown hgrow (by simp;omega) (fun j hj=>(hown2.lt j hj).1));clear hown' hgrow hown2;go_wp2_with fail;go_roundw
     case rel=>exact ⟨k+1,k+1,_,v',rfl,by go_num,by go_num,by omega,by omega,by rw [List.length_append,List.length_singleton];omega,HE,Q1,Q2⟩
     case measure=>simp [intOf];omega
   ·have k1:¬ (k:Int)<=(p.size:Int):=by omega
    have hfin:=hway.1.done hsz HC.1 (by omega);have hown2:=hown.1
    obtain ⟨a,cap,rfl⟩:∃ a cap,v = .slice a done.length cap:=by
     rcases hown2.2 with ⟨e,h0⟩ | ⟨g,cap,_,e,_⟩
     ·exact ⟨none,0,by rw [e,h0]⟩
     ·exact ⟨_,cap,e⟩
    clear hown2
    by_cases h4:done.length<=4
    ·have HE:=zS (show splitB p=(done,true) by rw [hfin,if_pos h4])
     have h4':¬ (4:Int)<(done.length:Int):=by omega
     clear hfin hway;go_wp2_with fail;go_ret2
     exact OPost.some HE.1 hown.1 hbl.1
    ·have HE:=zS (show splitB p=([],false) by rw [hfin,if_neg h4])
     have h4':(4:Int)<(done.length:Int):=by omega
     clear hfin hway;go_wp2_with fail;go_ret2
     exact OPost.none HE.1 (qht hbl.1) (hbl.1.alloc hbl.1.size _)
def joinA (L:List ByteArray):ByteArray:=ba ((L.map lb).map (47::·)).flatten
theorem joinA_snoc (L:List ByteArray) (x:ByteArray):joinA (L++[x])=(joinA L++⟨#[47]⟩)++x:=by
 apply ByteArray.ext;unfold joinA;simp
theorem qlx (L:List ByteArray):(joinA L).size=L.length+tsum L:=by
 induction L with
 | nil=>rfl
 | cons x L ih =>
  have e:joinA (x::L)=(⟨#[47]⟩:ByteArray)++x++joinA L:=by
   apply ByteArray.ext;unfold joinA;simp
  rw [e,ByteArray.size_append,ByteArray.size_append,ih];simp only [tsum,List.length_cons];have:(⟨#[47]⟩:ByteArray).size=1:=rfl;omega
theorem qqo (h:L ≠ []):joinB L=joinA L:=by
 unfold joinB joinP joinA;rw [if_neg (fun e=>h (List.map_eq_nil_iff.1 e))]
theorem specJoinPath (hv:SSee w v L lo hi) (hf:TFit L):Calls Tryz.prog 141 #[v] w fun e w'=>e = .returned (.string (joinB L))/\Below w.heap.size w w':=by
 obtain ⟨a,cap,rfl,hr⟩:=hv;have hn:L.length+tsum L<=1048576:=hf
 by_cases h0:L=[]
 ·subst h0
  clear hr hf hn;go_enter Tryz.func141,Tryz.ntmps141;go_wp2_with fail;go_ret;exact ⟨rfl,zB⟩
 ·have HE:=zS (qqo h0)
  have h1:0<L.length:=List.length_pos_iff.2 h0;have h1':((L.length:Int)==0)=false:=by rw [beq_eq_false_iff_ne];omega
  have HR:=zS hr;clear hr h0 hf;go_enter Tryz.func141,Tryz.ntmps141;go_wp2_with fail;go_loopw [3,4] (fun s i wr=>∃ (k:Nat),i = .int .i64 k/\k<=L.length/\s = .string (joinA (L.take k))/\Sh (Below w.heap.size w wr)) (fun _ i _=>L.length - (intOf i).toNat)
  case atStart=>exact ⟨0,rfl,Nat.zero_le _,rfl,⟨zB⟩⟩
  case round =>
   obtain ⟨k,rfl,hk,rfl,hbl⟩:=hrel
   by_cases hlt:k<L.length
   ·obtain ⟨b,off,rfl,lb',hc⟩:=qqn HR.1 (by omega)
    have d0:=(hbl.1.cell (p:=⟨b,off+k,none⟩) lb').trans (hc k hlt);have k0:(0:Int)<=(k:Int):=by omega
    have k1:(k:Int)<(L.length:Int):=by omega
    have hst:joinA (L.take (k+1))=(joinA (L.take k)++⟨#[47]⟩)++L.getD k ⟨#[]⟩:=by
     rw [List.take_succ_eq_append_getElem hlt,joinA_snoc];simp [List.getD,hlt]
    have hz1:=qlx (L.take k);have hz2:=qse L k;have hz3:(L.take k).length<=L.length:=by rw [List.length_take];omega
    have hz4:=tsum_take L k hlt;have hz5:=qse L (k+1);generalize L.getD k ⟨#[]⟩=x at *;have hja:(joinA (L.take k)).size+x.size+1<=2097152:=by omega
    generalize joinA (L.take k)=J at *;have HST:=zS hst;clear hst hc hz1 hz2 hz3 hz4 hz5;go_wp2_with fail;go_roundw
    case rel=>exact ⟨k+1,by go_num,by omega,by rw [HST.1],hbl⟩
    case measure=>simp [intOf];omega
   ·have hlt':¬ (k:Int)<(L.length:Int):=by omega
    have HF:Sh (joinA (L.take k)=joinB L):=⟨by rw [List.take_of_length_le (by omega),HE.1]⟩;generalize joinA (L.take k)=J at *;go_wp2_with fail;go_ret;exact ⟨congrArg (fun x=>Ending.returned (.string x)) HF.1,hbl.1⟩
def qfj (p:ByteArray) (w:World) (e:Ending) (w':World):Prop:=e = .returned (.tuple #[.string (qab p).1,.string (qab p).2.1,.bool (qab p).2.2])/\Below w.heap.size w w'
theorem qhv {ok:Bool} (h:splitB p=(L,ok)) (hn:ok=false\/L=[]):qab p=(⟨#[]⟩,⟨#[]⟩,false):=by
 unfold qab;rw [h]
 rw [if_neg (fun q=>by
  rcases hn with e | e
  ·rw [e] at q;cases q.1
  ·exact q.2 e)]
theorem qly {I:List ByteArray} {x:ByteArray} (h:splitB p=(I++[x],true)):qab p=(joinB I,x,true):=by
 unfold qab;rw [h,if_pos ⟨rfl,by simp⟩];simp
theorem qok (h:∀ s ∈ L,nameB s=true) (h4:L.length<=4):TFit L:=by
 have hs:∀ s ∈ L,s.size<=8:=fun s hs=>((qez s).1 (h s hs)).2.2
 have:tsum L<=L.length*8:=by
  clear h h4
  induction L with
  | nil=>simp [tsum]
  | cons x L ih =>
   simp only [tsum,List.length_cons,Nat.add_mul,Nat.one_mul];have h1:=hs x (by simp);have h2:=ih (fun s h=>hs s (by simp [h]));omega
 unfold TFit;omega
theorem qhw {L:List Value} (h:w.ownsRow B t 1 v n L):∃ a cap,v = .slice a n cap:=by
 rcases h.2 with ⟨e,h0⟩ | ⟨g,cap,_,e,_⟩
 ·exact ⟨none,0,by rw [e,h0]⟩
 ·exact ⟨_,cap,e⟩
theorem qkp {L:List Value} (h:w.ownsRow B t 1 v n L) (hp:0<n):∃ g cap,v = .slice (some ⟨g,0,none⟩) n cap/\n<=cap:=by
 rcases h.2 with ⟨_,h0⟩ | ⟨g,cap,_,e,_,_,hc,_⟩
 ·omega
 ·exact ⟨g,cap,e,hc⟩
theorem own_part9 {g cap B n k:Nat} (hown:w.ownsRow B 9 1 (.slice (some ⟨g,0,none⟩) n cap) n (tv L)) (hk:k<=L.length):SSee w (.slice (some ⟨g,0,none⟩) k cap) (L.take k) 0 w.heap.size:=by
 have hw:=qan hown;refine ⟨_,cap,by rw [List.length_take,Nat.min_eq_left hk],fun _=>⟨g,0,rfl,Nat.zero_le _,hw.1,hw.1,fun i v hv=>?_⟩⟩;rw [Nat.zero_add]
 have hv':(tv L)[i]?=some v:=by
  unfold tv at hv ⊢;rw [List.map_take] at hv;rw [List.getElem?_take] at hv;split at hv
  ·exact hv
  ·cases hv
 exact (hw.2 i v hv').1
theorem qeq (p:ByteArray) (w:World) (hs:p.size<=1048576):Calls Tryz.prog 85 #[.string p] w fun e w'=>qfj p w e w':=by
 have HS:=zS (fun W=>qhu p W hs);have hnm:=qcm p;unfold OPost at HS;unfold qfj;obtain ⟨L,ok,hre⟩:∃ L ok,splitB p=(L,ok):=⟨_,_,rfl⟩;rw [hre] at HS hnm;have HN:=zS hnm;clear hnm
 cases ok with
 | false =>
  rw [qhv hre (.inl rfl)];clear hre;go_enter Tryz.func85,Tryz.ntmps85;go_wp2_with fail;refine (HS.1 _).mono ?_;rintro e w1 ⟨v,rfl,ho,hb⟩;obtain ⟨a,cap,rfl⟩:=qhw ho;have HB:=zS hb;clear ho hb;go_wp2_with fail;go_ret3
  exact ⟨rfl,HB.1⟩
 | true =>
  rcases List.eq_nil_or_concat L with rfl | ⟨I,x,rfl⟩
  ·rw [qhv hre (.inr rfl)]
   clear hre;go_enter Tryz.func85,Tryz.ntmps85;go_wp2_with fail;refine (HS.1 _).mono ?_;rintro e w1 ⟨v,rfl,ho,hb⟩;obtain ⟨a,cap,rfl⟩:=qhw ho;have HB:=zS hb;clear ho hb;go_wp2_with fail;go_ret3
   exact ⟨rfl,HB.1⟩
  ·rw [List.concat_eq_append] at *
   rw [qly hre];obtain ⟨J,hJ⟩:∃ J,J=joinB I:=⟨_,rfl⟩;have HJE:=zS hJ;rw [<-hJ];clear hJ;have h4:=HN.1.2;have HF:Sh (TFit I):=⟨qok (fun s h=>HN.1.1 s (List.mem_append.2 (.inl h))) (by rw [List.length_append] at h4;omega)⟩;obtain ⟨m,hm⟩:∃ m,m=I.length:=⟨_,rfl⟩;have HM:=zS hm;have hm4:m<=4:=by rw [List.length_append] at h4;omega
   rw [show (I++[x],true).1.length=m+1 by simp [hm]] at HS;clear hre h4 hm;go_enter Tryz.func85,Tryz.ntmps85;go_wp2_with fail;refine (HS.1 _).mono ?_;rintro e w1 ⟨v,rfl,ho,hb⟩;obtain ⟨g,cap,rfl,hcap⟩:=qkp ho (by omega);have hw:=qan ho
   have d0:w1.cell? ⟨g,m,none⟩=some (.string x):=(hw.2 m (.string x) (by
    rw [qox _ m (by rw [List.length_append,HM.1];simp)]
    simp [List.getD,HM.1])).1
   have hg:=hw.1;have hsee:=own_part9 (k:=m) ho (by rw [List.length_append,HM.1];simp);rw [show (I++[x]).take m=I by rw [HM.1];simp] at hsee;have HJ:=zS (fun W (hW:Below w1.heap.size w1 W)=>specJoinPath (hsee.below hW) HF.1);have HB:=zS hb;have hm0:(((m+1:Nat):Int)==0)=false:=by rw [beq_eq_false_iff_ne];omega
   obtain ⟨n,hn⟩:∃ n,n=m+1:=⟨_,rfl⟩;rw [<-hn] at hcap hm0 ⊢;have hnm:(n:Int) - 1=(m:Int):=by omega
   have hmn:(m:Int)<(n:Int):=by omega
   have hmc:(m:Int)<=(cap:Int):=by omega
   have hm9:(0:Int)<=(m:Int):=by omega
   have hwr:IntKind.i64.wrap ((n:Int) - 1)=(m:Int):=by rw [hnm];exact IntWalk.i64_in _ ⟨by omega,by omega⟩
   rw [<-HJE.1] at HJ;clear ho hb hw hsee hn HN HM hnm;go_wp2_with fail
   go_region_held3 (fun w'=>w'.cell? ⟨g,m,none⟩=some (.string x))
    (first | assumption | (exact (hb9.cell (p:=⟨g,m,none⟩) hg).trans (by assumption)) | go_keep)
    (first | (go_at_call 141;refine (HJ.1 _ (by first | exact zB | exact Below.drew zB)).mono ?_;rintro e w9 ⟨rfl,hb9⟩))
   all_goals
    go_wp2_with fail;go_ret3
    exact ⟨rfl,by first | exact HB.1.trans (hb9.mono HB.1.size) | exact HB.1.trans (((Below.drew (Below.refl w1.heap.size w1)).trans hb9).mono HB.1.size)⟩
end
section
variable {v:Value} {w:World}
structure Grow (w:World) where
 val:World
 bel:Below w.heap.size w val
instance {w:World}:Nonempty (Grow w):=⟨⟨w,zB⟩⟩
theorem qah {P:Program} {id:Nat} {Q:Exit->Act->World->Prop} {a:Act} {l:List Oper} (hm:P.follows .mixedOrders=true) (hB:Region.lexB .any l.toArray=true)
  (h:wpQuiet P l.toArray (fun W=>∃ X:Grow w,W=X.val) (fun a'=>∀ w',(∃ X:Grow w,w'=X.val)->Q .normal a' w') l a):(Code.region id l.toArray true).wp P Q a w:=
 wp_region_quiet (C:=fun W=>∃ X:Grow w,W=X.val) hm hB ⟨⟨w.drew,Below.drew zB⟩,rfl⟩ (by simpa using h)
theorem Grow.cell (X:Grow w) {p:Addr} {v:Value} (h:w.cell? p=some v) (hl:p.block<w.heap.size):X.val.cell? p=some v:=(X.bel.cell hl).trans h
theorem qgk {P:Program} {f:FuncId} {args:Array Value} (h:∀ W,Below w.heap.size w W->Calls P f args W fun e w'=>e = .returned v/\Below W.heap.size W w') (X:Grow w) :
  Calls P f args X.val fun e w''=>e = .returned v/\∃ Y:Grow w,w''=Y.val:=
 (h X.val X.bel).mono fun _ w'' ⟨he,hb⟩=>⟨he,⟨w'',X.bel.trans (hb.mono X.bel.size)⟩,rfl⟩
theorem calls_same {P:Program} {f:FuncId} {args:Array Value} (h:∀ W,Below w.heap.size w W->Calls P f args W fun e w'=>e = .returned v/\w'=W) (X:Grow w) :
  Calls P f args X.val fun e w''=>e = .returned v/\∃ Y:Grow w,w''=Y.val:=
 (h X.val X.bel).mono fun _ _ ⟨he,hb⟩=>⟨he,X,hb⟩
end
section
open BigFrame
structure EM where
 kind:Int
 path:ByteArray
 dest:ByteArray
 num:Int
 who:Int
instance:Inhabited EM:=⟨⟨0,⟨#[]⟩,⟨#[]⟩,0,0⟩⟩
abbrev ev (e:EM):Value:=.agg #[.int .i64 e.kind,.string e.path,.string e.dest,.int .i64 e.num,.int .i64 e.who]
def qbg (e:EM):List Value:=[.int .i64 e.kind,.string e.path,.string e.dest,.int .i64 e.num,.int .i64 e.who]
def EFit (e:EM):Prop:=e.path.size<=1048576/\e.dest.size<=1048576
def named (p:ByteArray):Bool:=(qab p).2.2
def qim (e:EM):Bool:=(!named e.path && !(((e.kind==5)||(e.kind==6))&&(e.path.toList==[47])))||((e.kind==3) != named e.dest)||((e.kind != 3)&&(e.dest.toList != []))
def qlm (e:EM):Bool:=if e.kind=5 then inI e.num 1 3&&(e.who==0) else if e.kind=6 then inI e.num 0 1000&&(e.who==0) else if e.kind=7 then inI e.num 1 200&&(e.who==0) else if e.kind=2\/e.kind=9 then (e.num==0)&&inI e.who 1 9 else (e.num==0)&&(e.who==0)
def qaq (e:EM):Bool:=inI e.kind 1 10&&(if e.kind=10 then (e.path.toList==[47])&&(e.dest.toList==[])&&(e.num==0)&&(e.who==0) else !qim e&&qlm e)
theorem qnk (p:ByteArray) (w:World) (hs:p.size<=1048576):Calls Tryz.prog 84 #[.string p] w fun e w'=>e = .returned (.bool (named p))/\Below w.heap.size w w':=by
 have HC:=zS (fun W=>qeq p W hs);unfold qfj at HC;have e0:named p=(qab p).2.2:=rfl;rw [e0];generalize (qab p).2.2=a at *;generalize (qab p).2.1=b at *;generalize (qab p).1=c at *;clear hs e0;go_enter Tryz.func84,Tryz.ntmps84;go_wp2_with fail;refine (HC.1 _).mono ?_;rintro e w1 ⟨rfl,hb⟩;go_wp2_with fail;go_ret;exact ⟨rfl,hb⟩
end
section
open Go.Deep Go.ChangeShapes Go.WideShapes
variable {held:Bool} {base:Nat} {W:World}
def EdFit (e:EM):Prop:=e.path.size<=9223372036854775807/\e.dest.size<=9223372036854775807/\(Lit.int .i64 e.kind).wf=true/\(Lit.int .i64 e.num).wf=true/\(Lit.int .i64 e.who).wf=true
theorem cells_edit:Tryz.prog.cellsOf 32 = 5:=by kernel_rfl
theorem cells_intE:Tryz.prog.cellsOf 3 = 1:=by kernel_rfl
theorem cells_strE:Tryz.prog.cellsOf 9 = 1:=by kernel_rfl
theorem open_edit_cells {H:Type} {enc:TypeId × Value->H} {spare:Nat->Bool} {n:Nat} {cs:List Value} {x:DataW H × List MemPlace} (h:DataW.trod enc Tryz.prog W base spare held n 32 cs=some x) :
  ∃ e:EM,cs=qbg e/\EdFit e:=by
 obtain ⟨xs,k,_,rfl,hl,hlen,hf⟩:=DataW.trod_struct Tryz.underlying32 h;rw [cells_edit] at hl
 match xs,hlen,cs,hl with
 | [y0,y1,y2,y3,y4],_,[v0,v1,v2,v3,v4],_ =>
  have g0:=hf 0 _ rfl;have g1:=hf 1 _ rfl;have g2:=hf 2 _ rfl;have g3:=hf 3 _ rfl;have g4:=hf 4 _ rfl;simp [cells_strE,cells_intE] at g0 g1 g2 g3 g4;obtain ⟨q0,e0,_,z0⟩:=DataW.trod_int Tryz.underlying3 g0;obtain ⟨s1,e1,_,z1⟩:=DataW.trod_string Tryz.underlying9 g1;obtain ⟨s2,e2,_,z2⟩:=DataW.trod_string Tryz.underlying9 g2;obtain ⟨q3,e3,_,z3⟩:=DataW.trod_int Tryz.underlying3 g3;obtain ⟨q4,e4,_,z4⟩:=DataW.trod_int Tryz.underlying3 g4;simp only [List.cons.injEq,and_true] at e0 e1 e2 e3 e4;subst e0 e1 e2 e3 e4;unfold maxLen at z1 z2;exact ⟨⟨q0,s1,s2,q3,q4⟩,rfl,by simpa using z1,by simpa using z2,z0,z3,z4⟩
theorem open_edit {H:Type} {enc:TypeId × Value->H} {r:Reach} {b0 base:Nat} {spare:Nat->Bool} {v:Value} {d:DataW H} {p:List MemPlace}
  (hv:Value.okWide Tryz.prog W r b0 32 v) (h:DataW.Trod enc Tryz.prog W base spare held 32 v d p):∃ e:EM,v=ev e/\EdFit e:=by
 obtain ⟨cs,rfl,hsz⟩:=okWide_struct Tryz.underlying32 hv;obtain ⟨fuel,h⟩:=h;obtain ⟨f,e,hf⟩:=open_edit_cells h;refine ⟨f,?_,hf⟩;have:cs.toList=qbg f:=by simpa [Value.cells] using e
 rw [show cs=(qbg f).toArray by rw [<-this]]
 rfl
theorem szEdit_any (e:EM) (left:Int) (w:World) (h0:0<=left) (h1:left<=1048576) (hf:EdFit e) :
  Calls Tryz.prog 5 #[ev e,.int .i64 left] w fun r w'=>(∃ q:Int,r = .returned (.int .i64 q)/\-1<=q/\(0<=q->q+e.path.size+e.dest.size=left))/\Below w.heap.size w w':=by
 obtain ⟨kind,path,dest,num,who⟩:=e;obtain ⟨f1,f2,_⟩:=hf;dsimp only at *
 by_cases c1:left - path.size<0
 ·go_enter Tryz.func5,Tryz.ntmps5
  go_wp2_with fail;go_ret;exact ⟨⟨-1,rfl,by omega,by omega⟩,zB.alloc zL _⟩
 ·by_cases c2:left - path.size - dest.size<0
  ·go_enter Tryz.func5,Tryz.ntmps5
   go_wp2_with fail;go_ret;exact ⟨⟨-1,rfl,by omega,by omega⟩,zB.alloc zL _⟩
  ·go_enter Tryz.func5,Tryz.ntmps5
   go_wp2_with fail;go_ret;exact ⟨⟨left - path.size - dest.size,rfl,by omega,by omega⟩,zB.alloc zL _⟩
theorem toEdit_any (e:EM) (w:World):Calls Tryz.prog 8 #[ev e] w fun r w'=>r = .returned (ev e)/\Below w.heap.size w w':=by
 go_enter Tryz.func8,Tryz.ntmps8;go_wp2_with fail;refine bodyPost_ret (v:=ev e) (by simp [results,Tryz.results8,go_sem]) rfl ⟨rfl,?_⟩;exact ((zB.alloc zL _).alloc (by simp) _).alloc (by simp;omega) _
end
end Go.Proofs.YtackbhpgdohimaaGreatDoor
