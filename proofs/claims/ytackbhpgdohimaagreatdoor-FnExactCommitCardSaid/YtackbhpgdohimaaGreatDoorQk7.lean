/- Texts of ours, laid one behind the other: ShF, DiskR, ImC, LawLose, ImD, ReadVarM, VtM, Seal, FrM, Var, ReadVar, FrA, FrS, ReadShort, EdZ, EdE, EcA, LogM, ShortText, VarBack, ActB, BRowM, DrawC, DrEdA, DrEdB. -/
import Derived.Test.YtackbhpgdohimaaGreatDoorQk6
import Derived.Test.YtackbhpgdohimaaGreatDoorQk3
import Derived.Test.YtackbhpgdohimaaGreatDoorQk2
import Derived.Test.YtackbhpgdohimaaGreatDoorQk1
import Derived.Test.YtackbhpgdohimaaGreatDoorQk4
import Derived.Test.YtackbhpgdohimaaGreatDoorQk5
import Derived.Sort.KeysCollected
import Derived.Sort.OwnSorted
import Derived.WalkSpells
import Derived.Deep.CutRange
import Derived.PlainAid
import Derived.Test.YtackbhpgdohimaaGreatDoorQkShf
import Derived.BigQuiet
import Derived.Deep.LoopGhost
import Derived.Deep.RegionWith
import Derived.Deep.QuietTactic
import Derived.Deep.RegionHeld3
import Derived.Deep.DrawnRows
/- ShF: . -/
namespace Go.Proofs.YtackbhpgdohimaaGreatDoor
set_option maxRecDepth 100000
set_option maxHeartbeats 16000000
open Go.RowKit Go.Maps Go.Sort
attribute [local go_sem ↓] Go.wp_at_zero Go.wp_at_succ
variable {fs:List FM}
def mkP:Option Nat->Value
 | some g=>.pointer (some ⟨g,0,none⟩)
 | none=>.pointer none
theorem ptr_form {v:Value} {y:DataW Unit × List MemPlace} (h:qao v=some y):∃ c,v=mkP c:=by
 unfold qao at h;split at h
 ·exact ⟨some _,rfl⟩
 ·exact ⟨none,rfl⟩
 ·cases h
theorem infoStrS:(Tryz.prog.info? 9).map (fun i=>(i.zero,i.size,i.bytes))=some (some (.string ⟨#[]⟩),1,16):=by kernel_rfl
theorem sorted_names (hup:UpN fs) {ss:List (List UInt8)} (hp:ss.Perm (fs.map nm)):(ss.mergeSort fun x y=>decide (x<=y))=fs.map nm:=by
 have tr:∀ a b c:List UInt8,leB a b=true->leB b c=true->leB a c=true:=fun a b c h1 h2=>by simp only [leB,decide_eq_true_eq] at *;exact List.le_trans h1 h2
 have tt:∀ a b:List UInt8,(leB a b||leB b a)=true:=fun a b=>by simp only [leB,Bool.or_eq_true,decide_eq_true_eq];exact List.le_total a b
 refine List.Perm.eq_of_pairwise (le:=fun a b=>leB a b=true) (fun a b _ _ h1 h2=>?_) (List.pairwise_mergeSort tr tt ss) ?_ ((List.mergeSort_perm ss leB).trans hp)
 ·simp only [leB,decide_eq_true_eq] at h1 h2
  exact List.le_antisymm h1 h2
 ·exact List.pairwise_map.2 (hup.imp fun {a b} h=>decide_eq_true (List.le_of_lt h))
theorem names_perm (hup:UpN fs) {D:DataW Unit} {left:Lit->Bool} {ss:List (List UInt8)} (hC:Collected D left ss) (hl:∀ l,left l=false) (hin:∀ f ∈ fs,Maps.has D (kl f.name)=true) (hno:∀ n:ByteArray,(∀ f ∈ fs,f.name ≠ n)->Maps.has D (kl n)=false):ss.Perm (fs.map nm):=by
 refine (List.perm_ext_iff_of_nodup hC.1 ?_).2 fun x=>?_
 ·exact List.pairwise_map.2 (hup.imp fun {a b} h e=>by rw [e] at h;exact List.lt_irrefl _ h)
 ·rw [hC.2 x,hl,List.mem_map]
  constructor
  ·rintro ⟨h1,_⟩
   refine Classical.byContradiction fun hc=>?_;have:=hno ⟨x.toArray⟩ fun f hf e=>hc ⟨f,hf,by rw [nm,e]⟩;rw [kl] at this;rw [this] at h1;cases h1
  ·rintro ⟨f,hf,rfl⟩
   exact ⟨hin f hf,rfl⟩
theorem qqs (b B:Nat) (fs:List FM) (w:World) (hsh:Shelf w B b fs) (hok:DOk fs) :
  Calls Tryz.prog 133 #[.map (some b)] w fun e w'=>MadeDisk fs w e w':=by
 obtain ⟨i0,hi,hz0,hz1,hz2⟩:=info_parts infoStrS;obtain ⟨j0,hj,hy0,hy1,hy2⟩:=info_parts qfh;have HOK:Hid (DOk fs):=hok;have h30:=hok.1;obtain ⟨hB,D,G,hown,hsz,hin,hinj,hno⟩:=hsh;have hbl:=hown.lt;have HIN:Hid (∀ f ∈ fs,(∀ z,D.atKey (kl f.name) z = .lit (.int .i64 (G f.name)))/\WCells w (G f.name) (qbz f)/\B<=G f.name/\G f.name ≠ b):=hin;have HNO:Hid (∀ n,(∀ f ∈ fs,f.name ≠ n)->Maps.has D (kl n)=false):=hno;have hbl1:b<(w.alloc (.cells #[.slice none 0 0] 40)).heap.size:=by simp;omega
 have hownA:=hown.alloc (.cells #[.slice none 0 0] 40);have HY0:Hid (WCells (w.alloc (.cells #[.slice none 0 0] 40)) w.heap.size [.slice none 0 0]):=qac w #[.slice none 0 0] 40;have HB0:Hid (Below w.heap.size w (w.alloc (.cells #[.slice none 0 0] 40))):=zB.alloc zL _;have hmax:fs.length<=maxLen:=by unfold maxLen;omega
 clear hok hin hinj hno hB;go_enter Tryz.func133,Tryz.ntmps133
 go_wp2_with (first
  | (at_len;refine wpList_len_own _ rfl _ 206 rfl 9 227 Tryz.underlying206 qao b fs.length D rfl hownA ?_)
  | (at_make;refine wpList_make_own _ rfl _ _ 136 rfl (w.heap.size+1) 9 i0 (.string ⟨#[]⟩) 1 Tryz.underlying136 hi hz0 hz1 _ _ _ fs.length rfl rfl (by first | rfl | (rw [hsz]) | omega) (by rw [hz2];omega) hmax (by simp) ?_;intro w1 hrow1 hg1)
  | (at_range;refine wpList_range_own _ rfl _ 206 rfl 9 227 lawK Tryz.underlying206 qao b fs.length D rfl (hownA.kept hg1 (by simp)) ?_;intro w0 hrg0 hg0 hs0))
 go_frame
 have hb1:Below w.heap.size w w1:=HB0.out.grown hg1 HB0.out.size (fun j hj=>by cases hj);have hb2:Below w.heap.size w w0:=hb1.grown hg0 hb1.size (fun j hj=>by cases hj);have HY2:Sh (WCells w0 w.heap.size [.slice none 0 0]):=⟨qbk (qbk HY0.out hg1 (by simp)) hg0 (by simp)⟩;have hws:w.heap.size+1<w1.heap.size:=by have:=(hrow1.lt _ rfl).2;simpa using this
 go_loopw [3] (fun v wr=>∃ (left:Lit->Bool) (cnt:Nat) (ss:List (List UInt8)),wr.ranges Tryz.prog 9 qao b w1.heap.size fs.length D left cnt/\ss.length+cnt<=fs.length /\
   wr.ownsRow (w.heap.size+1) 9 1 v ss.length (ss.map encStr)/\v ≠ .slice none 0 0/\Collected D left ss/\Sh (WCells wr w.heap.size [.slice none 0 0])/\Below w.heap.size w wr/\w1.heap.size<wr.heap.size)
  (fun _ wr=>wr.rangeLeft b w1.heap.size)
 case atStart =>
  exact ⟨_,_,[],hrg0,by simp [hsz],by have:=hrow1.kept hg0 (Or.inr (by simp [Value.ownBlock]));simpa using this,by simp,Collected.start D,HY2,hb2,by omega⟩
 case round =>
  clear hrg0 HY2 hb2 hb1 hrow1 hg0 hs0 hownA;obtain ⟨left,cnt,ss,hrg,hcs,hrow,hnn,hC,hy,hnx,hw1⟩:=hrel
  go_wp2_with (first
   | (at_next;refine wpList_next_ranges _ rfl _ rfl 9 lawK qao encStr mkP (fun key kl hk=>by obtain ⟨x,hx,_⟩:=Maps.keyOf_str Tryz.underlying9 hk;exact ⟨x,hx⟩) (fun v y hv=>ptr_form hv) b w1.heap.size fs.length _ _ _ rfl hrg ?_ ?_))
  ·intro hc0 hl0
   have hperm:=names_perm HOK.out.up hC hl0 (fun f hf=>Maps.has_true_of_atKey (HIN.out f hf).1) HNO.out;have hsl:ss.length=fs.length:=by rw [hperm.length_eq];simp
   have hsort:=sorted_names HOK.out.up hperm;rcases hrow.2 with ⟨hnil,_⟩ | ⟨g,cap,cur,rfl,hbase,hb,h1,h2,h3,h4⟩
   ·exact absurd hnil hnn
   have hH:Holds encStr wr g 0 ss.toArray:=holds_of_block hb (by simpa using h4);have hgl:g<wr.heap.size:=(Array.getElem?_eq_some_iff.1 hb).1;have hc:=Tryz.slices_Sort_string g 0 cap ss wr hH hgl (by omega)
   have hpost:∀ (e:Ending) (w':World),(e = .returned (.tuple #[])/\∃ n os,w'=grow (putRow encStr (Sort.ahead wr n) g 0 (ss.mergeSort fun x y=>decide (x<=y)).toArray) os)->e = .returned (.tuple #[])/\Sh (WCells w' g ((fs.map nm).map encStr))/\Sh (WCells w' w.heap.size [.slice none 0 0])/\Below w.heap.size w w'/\w.heap.size+1<w'.heap.size:=by
    rintro e w' ⟨rfl,nn,os,rfl⟩;have hrs:=ownsRow_sorted (n:=nn) (os:=os) (ts:=ss.mergeSort fun x y=>decide (x<=y)) (by simp) hbase hb h1 h2 h3;rw [hsort] at hrs ⊢;have hgr:=grownBy_sorted (w:=wr) (g:=g) (n:=nn) (os:=os) (fs.map nm).toArray;refine ⟨rfl,⟨qan hrs⟩,⟨qbk hy.1 hgr (fun e=>by simp at e;omega)⟩,hnx.grown hgr hnx.size (fun j hj=>by cases hj;omega),by have:=hgr.size;omega⟩
   have HC:Hid (Calls Tryz.prog 170 #[.slice (some ⟨g,0,none⟩) ss.length cap] wr fun e w'=>e = .returned (.tuple #[])/\Sh (WCells w' g ((fs.map nm).map encStr))/\Sh (WCells w' w.heap.size [.slice none 0 0])/\Below w.heap.size w w'/\w.heap.size+1<w'.heap.size):=hc.mono hpost;clear hpost hc hsort hperm hrow hb h1 h2 h3 h4 hH hrg hC hy hnx hnn hl0 hc0 hw1 hcs;generalize ss.length=m at hsl HC ⊢;subst hsl
   go_wp2_with (first
    | (go_at_call 170;refine HC.out.mono ?_;rintro e w3 ⟨rfl,hN,hy3,hnx3,hs3⟩)
    | (at_make;refine wpList_make_own _ rfl _ _ 38 rfl w3.heap.size 150 j0 _ 3 Tryz.underlying38 hj hy0 hy1 .i64 .i64 _ fs.length rfl rfl (by omega) (by rw [hy2];omega) hmax zL ?_;intro w4 hrow4 hg4))
   have hb4:Below w3.heap.size w3 w4:=zB.grown hg4 zL (fun j hj=>by cases hj);have HB4:Hid (Below w3.heap.size w3 w4):=hb4;have HR4:Hid (w4.ownsRow w3.heap.size 150 3 (.slice (some ⟨w3.heap.size,0,none⟩) 0 fs.length) 0 []):=hrow4;clear HC hg4 hb4 hrow4;go_loopw [5,28] (fun v i wr=>∃ (k:Nat),i = .int .i64 k/\k<=fs.length/\wr.ownsRow w3.heap.size 150 3 v k (fcs (fs.take k))/\Below w3.heap.size w3 wr) (fun _ i _=>fs.length - (intOf i).toNat)
   case atStart=>exact ⟨0,rfl,Nat.zero_le _,by simpa [fcs] using HR4.out,HB4.out⟩
   case round =>
    clear HR4 HB4;obtain ⟨k,rfl,hk,hown5,hb5⟩:=hrel;have hbw:Below w.heap.size w wr:=hnx3.trans (hb5.mono hnx3.size)
    by_cases hlt:k<fs.length
    ·have hcell:=(hN.1.2 k (.string fs[k].name) (by simp [hlt])).1
     rw [<-hb5.cell (p:=⟨g,k,none⟩) hN.1.1] at hcell;obtain ⟨q1,q2,_,_⟩:=HIN.out fs[k] (List.getElem_mem hlt);have hfo:=HOK.out.ok fs[k] (List.getElem_mem hlt);have hstep:fcs (fs.take (k+1))=fcs (fs.take k)++[.string fs[k].name,.string fs[k].text,.int .i64 fs[k].kept]:=by rw [qke fs k hlt,qgi]
     obtain ⟨f,hfe⟩:∃ f,f=fs[k]:=⟨_,rfl⟩;rw [<-hfe] at hcell q1 q2 hfo hstep;have q2':=q2.below hbw q2.1;obtain ⟨c0,_,c1,_,c2,_⟩:=bwc3 q2';have hkey:=qje f.name (by have:=hfo.1.2;unfold maxLen;omega);have hownr:=hown.kept (row:=none) ⟨hbw.os,hbw.tape,hbw.output,hbw.size,fun k hk _=>hbw.block k hk⟩ (by simp);have HST:Hid (fcs (fs.take (k+1))=fcs (fs.take k)++[.string f.name,.string f.text,.int .i64 f.kept]):=hstep;have k0:(0:Int)<=(k:Int):=by omega
     have k1:(k:Int)<(fs.length:Int):=by omega
     have HB5:Hid (Below w3.heap.size w3 wr):=hb5;generalize G f.name=gf at *;clear hfe hfo hstep q2 q2' hb5 hbw
     go_wp2_with (first
      | (at_lookup;refine wpList_at _ rfl _ _ 206 rfl 9 227 lawK Tryz.underlying206 (qcz _) b fs.length D rfl hownr _ _ rfl hkey gf q1 ?_)
      | (at_builtin;refine wpList_append_own _ rfl _ _ 38 rfl w3.heap.size 150 j0 _ 3 40 Tryz.underlying38 hj hy0 hy1 hy2 rfl (by decide) _ _ _ rfl (hown5.alloc _) ⟨wr.heap.size,0,none⟩ 1 1 [.string f.name,.string f.text,.int .i64 f.kept] rfl rfl (World.news_of_block (cs:=#[.string f.name,.string f.text,.int .i64 f.kept]) (t:=150) (fr:=(0,0)) (heap_alloc_new wr _)) (by simp [Value.oneCell']) (by unfold maxLen;omega) (by omega) (by have:=HB5.out.size;simp;omega) ?_;intro v' w6 hown' hg6 hnil6))
     go_roundw
     case rel =>
      refine ⟨k+1,by go_num,by omega,?_,(HB5.out.alloc HB5.out.size _).grown hg6 (by have:=HB5.out.size;simp;omega) (fun j hj=>(hown5.lt j hj).1)⟩;rw [HST.out];exact hown'
     case measure=>simp [intOf];omega
    ·have e:k=fs.length:=by omega
     subst e;rw [List.take_length] at hown5;obtain ⟨va,vcap,rfl⟩:=qbd hown5;have HR5:Hid (FRow wr va fs):=(FRw.of_own hown5).1.crow;have HB5:Hid (Below w.heap.size w wr):=hbw;have hyr:=hy3.1.grow hb5;have HYR:Sh (WCells wr w.heap.size [.slice none 0 0]):=⟨hyr⟩
     have HFO:Hid (∀ f ∈ fs,f.name.size<=281474976710656/\f.text.size<=281474976710656):=by
      intro f hf;have:=HOK.out.ok f hf;exact ⟨by have:=this.1.2;omega,by have:=this.2.1;omega⟩
     clear hb5 hbw hyr;go_wp2_with fail;refine (qip va fs vcap _ HR5.out (by omega) HFO.out).mono ?_;rintro e w7 ⟨v7,rfl,hown7,hb7⟩;obtain ⟨yc,yf⟩:=(HYR.1.grow hb7).2 0 _ rfl;have HB7:Hid (Below w.heap.size w w7):=HB5.out.trans (hb7.mono HB5.out.size);have hsz7:=HYR.1.1;obtain ⟨va7,vcap7,rfl⟩:=qbd hown7;clear hb7;go_wp2_with fail
     show bodyPost Tryz.prog Tryz.f133 _ Exit.ret _ _
     refine bodyPost_ret (v:=.agg #[.slice va7 fs.length vcap7]) (by simp [results,Tryz.results133,go_sem,yc]) rfl ⟨_,rfl,?_,HB7.out.setCell (by simp) _⟩;exact qaz (qax hown7 hsz7 _ rfl _ rfl) (by omega)
  ·intro x c l yd yp w2 cnt2 hkey hlk hv hat hrg2 hlt hg2 hs2 hen
   obtain ⟨x',ex,rfl,_⟩:=Maps.keyOf_str Tryz.underlying9 hkey;obtain rfl:x=x':=encStr_inj ex;have hrow2:=hrow.kept hg2 (Or.inr (row_ne_iter hrow hrg).symm);have hs2':wr.heap.size<=w2.heap.size:=by omega
   clear hs2;have hnx2:Below w.heap.size w w2:=hnx.grown hg2 hnx.size (fun j hj=>by cases hj;omega);have hy2':WCells w2 w.heap.size [.slice none 0 0]:=qbk hy.1 hg2 (fun e=>by simp at e;omega);have HY3:Sh (WCells w2 w.heap.size [.slice none 0 0]):=⟨hy2'⟩;clear hy2'
   go_wp2_with (first
    | (at_builtin;refine wpList_append_own _ rfl _ _ 136 rfl (w.heap.size+1) 9 i0 (.string ⟨#[]⟩) 1 16 Tryz.underlying136 hi hz0 hz1 hz2 rfl (by decide) _ _ _ rfl (hrow2.alloc _) ⟨w2.heap.size,0,none⟩ 1 1 [encStr x] rfl rfl (cell_one_new _ _ _) (by simp [Value.oneCell',encStr]) (by unfold maxLen at *;omega) (by omega) (by simp;omega) ?_;intro v' w3 hown' hg3 hnil3))
   have hrg3:=(hrg2.alloc _).kept hg3 (row_ne_low hrow2 (by omega)) (row_ne_iter hrow2 hrg2);go_roundw
   case rel =>
    refine ⟨_,cnt2,ss++[x],hrg3,by simp;omega,by simpa using hown',fun hv'=>by have:=(hnil3.1 hv').2;omega,hC.step hlk hat,⟨qbk (HY3.1.alloc _) hg3 (fun e=>by have:=(hrow2.lt _ e).1;omega)⟩,?_,?_⟩
    ·exact (hnx2.alloc hnx2.size _).grown hg3 (by have:=hnx2.size;simp;omega) (fun j hj=>by have:=(hrow2.lt j hj).1;omega)
    ·have:=hg3.size;simp at this;omega
   case measure=>rw [hrg3.left_eq,hrg.left_eq];exact hlt
end Go.Proofs.YtackbhpgdohimaaGreatDoor
/- DiskR: . -/
namespace Go.Proofs.YtackbhpgdohimaaGreatDoor
set_option maxRecDepth 100000
set_option maxHeartbeats 16000000
open Go.RowKit
attribute [local go_sem ↓] Go.wp_at_zero Go.wp_at_succ

end Go.Proofs.YtackbhpgdohimaaGreatDoor
/- ImD: . -/
namespace Go.Proofs.YtackbhpgdohimaaGreatDoor
set_option maxRecDepth 100000
set_option maxHeartbeats 16000000
open Go.RowKit Go.Maps
attribute [local go_sem ↓] Go.wp_at_zero Go.wp_at_succ
def AGood (xs:List AM):Prop:=∀ x ∈ xs,x.name.size<=9223372036854775807/\x.text.size<=1048576/\x.dst.size<=9223372036854775807
theorem implDoActs (a c:Option Addr) (fs:List FM) (xs:List AM) (cap capx:Nat) (w:World) (hr:FRow w a fs) (hf:FFit fs) (hl:fs.length<=1048576) (hfs:fsum fs<=1048576) (hx:ARow w c xs) (hxg:AGood xs) (hxl:xs.length<=1048576) :
  Calls Tryz.prog 72 #[.agg #[.slice a fs.length cap],.slice c xs.length capx] w fun e w'=>qcr (doAs fs xs).1 (.int .i64 ((doAs fs xs).2:Nat)) w e w':=by
 have hb0:Below w.heap.size w ((w.alloc (.cells #[.slice a fs.length cap] 40)).alloc (.cells #[.slice none 0 0] 40)):=(zB.alloc zL _).alloc (by simp) _;have HR:Hid (FRow w a fs):=hr;have HR0:Hid (FRow ((w.alloc (.cells #[.slice a fs.length cap] 40)).alloc (.cells #[.slice none 0 0] 40)) a fs):=hr.stays hb0;have HF:Hid (FFit fs):=hf;have HXR:Hid (ARow w c xs):=hx;have HXG:Hid (AGood xs):=hxg;have hx0:=(qac w #[.slice a fs.length cap] 40).alloc (.cells #[.slice none 0 0] 40);have hy0:=qac (w.alloc (.cells #[.slice a fs.length cap] 40)) #[.slice none 0 0] 40;simp only [World.size_alloc] at hx0 hy0;have HX0:Sh (WCells ((w.alloc (.cells #[.slice a fs.length cap] 40)).alloc (.cells #[.slice none 0 0] 40)) w.heap.size [.slice a fs.length cap]):=⟨hx0⟩;have HY0:Sh (WCells ((w.alloc (.cells #[.slice a fs.length cap] 40)).alloc (.cells #[.slice none 0 0] 40)) (w.heap.size+1) [.slice none 0 0]):=⟨hy0⟩;have HB0:Hid (Below w.heap.size w ((w.alloc (.cells #[.slice a fs.length cap] 40)).alloc (.cells #[.slice none 0 0] 40))):=hb0;have HSM:Hid (∀ f ∈ fs,f.name.size<=281474976710656/\f.text.size<=281474976710656):=fun f hf=>by have:=fsum_mem hf;omega
 generalize hD:dOkB fs=D;have HD:Hid (dOkB fs=D):=hD;generalize hrr:doAs fs xs=rr;have HRR:Hid (doAs fs xs=rr):=hrr;clear hr hf hx hxg hx0 hy0 hb0 hD hrr hfs;go_enter Tryz.func72,Tryz.ntmps72;go_wp2_with fail;refine (implDiskOk a fs cap _ HR0.out HF.out hl).mono ?_;rw [HD.out];rintro e w1 ⟨rfl,hb1⟩;have HX1:Sh (WCells w1 w.heap.size [.slice a fs.length cap]):=⟨HX0.1.grow hb1⟩;have HY1:Sh (WCells w1 (w.heap.size+1) [.slice none 0 0]):=⟨HY0.1.grow hb1⟩;have HB1:Hid (Below w.heap.size w w1):=HB0.out.trans (hb1.mono HB0.out.size);have x1:=(HX1.1.2 0 _ rfl).1;clear hb1 HX0 HY0 HB0
 cases D with
 | false =>
  have HEQ:Hid (rr=(fs,0)):=HRR.out.symm.trans (doAs_bad (fun h=>by have:=HD.out;rw [qcp h] at this;cases this) xs);go_wp2_with fail;refine (qip a fs cap _ (HR.out.stays HB1.out) hl HSM.out).mono ?_;rintro e w7 ⟨v7,rfl,hown7,hb7⟩;obtain ⟨yc,yf⟩:=(HY1.1.grow hb7).2 0 _ rfl;have HB7:Hid (Below w.heap.size w w7):=HB1.out.trans (hb7.mono HB1.out.size);have hs7:=HY1.1.1;obtain ⟨va7,vcap7,rfl⟩:=qbd hown7;have HW7:Hid (w.heap.size<=w1.heap.size):=HB1.out.size;clear hb7;go_wp2_with fail;refine bodyPost_ret (v:=.tuple #[.agg #[.slice va7 fs.length vcap7],.int .i64 (0:Nat)]) (by simp [results,Tryz.results72,go_sem,yc]) rfl ?_;rw [HEQ.out];have hown8:=qaz (C:=w.heap.size) (qax hown7 hs7 ⟨w.heap.size+1,0,none⟩ rfl (.slice va7 fs.length vcap7) rfl) (by have:=HW7.out;omega);obtain ⟨hf,hc⟩:=FRw.of_own hown8;exact ⟨va7,vcap7,rfl,hf,hc,HB7.out.setCell (by simp) _⟩
 | true =>
  have HOK0:Hid (DOk fs):=by
   by_cases h:DOk fs
   ·exact h
   ·have:=HD.out;rw [qbt h] at this;cases this
  go_wp2_with fail;refine (shelfOf_any a fs cap _ (HR.out.stays HB1.out) HOK0.out).mono ?_;rintro e w2 ⟨b,rfl,hsh2,hb2⟩;have HSH2:Hid (Shelf w2 w1.heap.size b fs):=hsh2;have HB2:Hid (Below w1.heap.size w1 w2):=hb2;clear hsh2 hb2 x1 HX1;go_wp2_with fail;go_loopw [7] (fun v wr=>∃ (k:Nat) (cur:List FM),v = .int .i64 k/\k<=xs.length/\Sh (Ran fs xs k cur/\DOk cur)/\Shelf wr w1.heap.size b cur/\Below w1.heap.size w1 wr) (fun v _=>xs.length - (intOf v).toNat)
  case atStart=>exact ⟨0,fs,rfl,Nat.zero_le _,⟨Ran.start fs xs,HOK0.out⟩,HSH2.out,HB2.out⟩
  case round =>
   clear HSH2 HB2;obtain ⟨k,cur,rfl,hk,hran,hsh,hbr⟩:=hrel;have HY:Sh (WCells wr (w.heap.size+1) [.slice none 0 0]):=⟨HY1.1.grow hbr⟩;have HB:Hid (Below w.heap.size w wr):=HB1.out.trans (hbr.mono HB1.out.size);have HSH:Hid (Shelf wr w1.heap.size b cur):=hsh;have HOK:Hid (DOk cur):=hran.1.2
   by_cases hlt:k<xs.length
   ·obtain ⟨bx,off,rfl,lb,hc⟩:=ARow.at (HXR.out.stays HB.out) (by omega)
    obtain ⟨d0,d1,d2,d3⟩:=hc k hlt;have hgood:=HXG.out xs[k] (List.getElem_mem hlt);have HST:Hid (∀ o,doA cur xs[k]=some o->Ran fs xs (k+1) o):=fun o ho=>hran.1.1.step hlt ho;have HSP:Hid (doA cur xs[k]=none->doAs fs xs=(cur,k)):=fun ho=>hran.1.1.stop hlt ho;obtain ⟨x,hxe⟩:∃ x,x=xs[k]:=⟨_,rfl⟩;rw [<-hxe] at d0 d1 d2 d3 hgood HST HSP;obtain ⟨g1,g2,g3⟩:=hgood;have hbsz:=hbr.size;have HBR:Hid (Below w1.heap.size w1 wr):=hbr;have k0:(0:Int)<=(k:Int):=by omega
    have k1:(k:Int)<(xs.length:Int):=by omega
    clear hxe hc hbr hsh hran;go_wp2_with fail;refine (do_any b w1.heap.size cur x _ HSH.out HOK.out g1 g2 g3 hbsz).mono ?_;generalize hre:doA cur x=r;rintro e w4 ⟨rfl,hs4,hb4⟩;have HB4:Hid (Below w1.heap.size w1 w4):=HBR.out.trans hb4;clear HSH HB HY hb4 HBR d0 d1 d2 d3;have HY:Sh (WCells w4 (w.heap.size+1) [.slice none 0 0]):=⟨HY1.1.grow HB4.out⟩;have HB:Hid (Below w.heap.size w w4):=HB1.out.trans (HB4.out.mono HB1.out.size)
    cases r with
    | none =>
     have HSH:Hid (Shelf w4 w1.heap.size b cur):=hs4;have HEQ:Hid (rr=(cur,k)):=HRR.out.symm.trans (HSP.out hre);clear hs4 hre HST HSP;go_wp2_with fail;refine (qqs b w1.heap.size cur _ HSH.out HOK.out).mono ?_;rintro e w7 ⟨v7,rfl,hown7,hb7⟩;obtain ⟨yc,yf⟩:=(HY.1.grow hb7).2 0 _ rfl;have HB7:Hid (Below w.heap.size w w7):=HB.out.trans (hb7.mono HB.out.size);have hs7:=HY.1.1;obtain ⟨va7,vcap7,rfl⟩:=qbd hown7;have HW7:Hid (w.heap.size<=w4.heap.size):=HB.out.size;clear hb7;go_wp2_with fail
     show bodyPost Tryz.prog Tryz.f72 _ Exit.ret _ _
     refine bodyPost_ret (v:=.tuple #[.agg #[.slice va7 cur.length vcap7],.int .i64 (k:Nat)]) (by simp [results,Tryz.results72,go_sem,yc]) rfl ?_;rw [HEQ.out];have hown8:=qaz (C:=w.heap.size) (qax hown7 hs7 ⟨w.heap.size+1,0,none⟩ rfl (.slice va7 cur.length vcap7) rfl) (by have:=HW7.out;omega);obtain ⟨hf,hc⟩:=FRw.of_own hown8;exact ⟨va7,vcap7,rfl,hf,hc,HB7.out.setCell (by simp) _⟩
    | some o =>
     have HOO:Sh (Ran fs xs (k+1) o/\DOk o):=⟨HST.out o hre,qre hre⟩;have HSH:Hid (Shelf w4 w1.heap.size b o):=hs4;clear hs4 hre HST HSP;go_wp2_with fail;go_roundw
     case rel=>exact ⟨k+1,o,by go_num,by omega,HOO,HSH.out,HB4.out⟩
     case measure=>simp [intOf];omega
   ·have e:k=xs.length:=by omega
    subst e;have HEQ:Hid (rr=(cur,xs.length)):=HRR.out.symm.trans hran.1.1.all;clear hbr hsh hran;go_wp2_with fail;refine (qqs b w1.heap.size cur _ HSH.out HOK.out).mono ?_;rintro e w7 ⟨v7,rfl,hown7,hb7⟩;obtain ⟨yc,yf⟩:=(HY.1.grow hb7).2 0 _ rfl;have HB7:Hid (Below w.heap.size w w7):=HB.out.trans (hb7.mono HB.out.size);have hs7:=HY.1.1;obtain ⟨va7,vcap7,rfl⟩:=qbd hown7;have HW7:Hid (w.heap.size<=wr.heap.size):=HB.out.size;clear hb7;go_wp2_with fail
    show bodyPost Tryz.prog Tryz.f72 _ Exit.ret _ _
    refine bodyPost_ret (v:=.tuple #[.agg #[.slice va7 cur.length vcap7],.int .i64 (xs.length:Nat)]) (by simp [results,Tryz.results72,go_sem,yc]) rfl ?_;rw [HEQ.out];have hown8:=qaz (C:=w.heap.size) (qax hown7 hs7 ⟨w.heap.size+1,0,none⟩ rfl (.slice va7 cur.length vcap7) rfl) (by have:=HW7.out;omega);obtain ⟨hf,hc⟩:=FRw.of_own hown8;exact ⟨va7,vcap7,rfl,hf,hc,HB7.out.setCell (by simp) _⟩
end Go.Proofs.YtackbhpgdohimaaGreatDoor
/- ReadVarM: . -/
namespace Go.Proofs.YtackbhpgdohimaaGreatDoor.W
open Go.PlainAid (bt)
end Go.Proofs.YtackbhpgdohimaaGreatDoor.W
/- VtM: . -/
namespace Go.Proofs.YtackbhpgdohimaaGreatDoor.W
end Go.Proofs.YtackbhpgdohimaaGreatDoor.W
/- Seal: . -/
namespace Go.Proofs.YtackbhpgdohimaaGreatDoor
set_option maxRecDepth 100000
set_option maxHeartbeats 16000000
open Go.RowKit
open W (B32)
attribute [local go_sem ↓] Go.wp_at_zero Go.wp_at_succ
theorem qma (x:B32):IntKind.u8.wrap ((x.toNat:Int) / 16777216)=((UInt8.ofNat (x.toNat / 16777216)).toNat:Int)/\IntKind.u8.wrap ((x.toNat:Int) / 65536)=((UInt8.ofNat (x.toNat / 65536)).toNat:Int) /\
  IntKind.u8.wrap ((x.toNat:Int) / 256)=((UInt8.ofNat (x.toNat / 256)).toNat:Int)/\IntKind.u8.wrap (x.toNat:Int)=((UInt8.ofNat x.toNat).toNat:Int):=by
 refine ⟨?_,?_,?_,?_⟩ <;> simp [IntKind.wrap,IntKind.bits,IntKind.signed]
def fourB (x:B32):ByteArray:=⟨(W.four x).toArray⟩
theorem qmb (x:B32):(fourB x).size=4:=rfl
theorem qoq (w:World) (c1 c2 c3 c4:UInt8):(convert 144 9 (.slice (some ⟨w.heap.size,0,none⟩) 4 4)).run Tryz.prog (w.alloc (.cells #[.int .u8 (c1.toNat:Int),.int .u8 (c2.toNat:Int),.int .u8 (c3.toNat:Int),.int .u8 (c4.toNat:Int)] 5)) =
  .ok (.string ⟨[c1,c2,c3,c4].toArray⟩) (w.alloc (.cells #[.int .u8 (c1.toNat:Int),.int .u8 (c2.toNat:Int),.int .u8 (c3.toNat:Int),.int .u8 (c4.toNat:Int)] 5)):=by
 refine run_convert_bytes_back _ 144 9 5 ⟨w.heap.size,0,none⟩ 4 [c1,c2,c3,c4] Tryz.underlying144 Tryz.underlying5 Tryz.underlying9 (fun j hj=>?_);have e:(⟨w.heap.size,0,none⟩:Addr).add j=⟨w.heap.size,j,none⟩:=by cases j <;> simp [Addr.add]
 rw [e,World.cell?_alloc_mark]
 match j,hj with
 | 0,_ | 1,_ | 2,_ | 3,_=>rfl
def qqr (x:B32) (w:World) (e:Ending) (w':World):Prop:=e = .returned (.string (fourB x))/\Below w.heap.size w w'
theorem implFour (x:B32) (w:World) :
  Calls Tryz.prog 129 #[u32 x] w fun e w'=>qqr x w e w':=by
 obtain ⟨h1,h2,h3,h4⟩:=qma x;have hf:W.four x=[UInt8.ofNat (x.toNat / 16777216),UInt8.ofNat (x.toNat / 65536),UInt8.ofNat (x.toNat / 256),UInt8.ofNat x.toNat]:=rfl;generalize UInt8.ofNat (x.toNat / 16777216)=c1 at h1 hf;generalize UInt8.ofNat (x.toNat / 65536)=c2 at h2 hf;generalize UInt8.ofNat (x.toNat / 256)=c3 at h3 hf;generalize UInt8.ofNat x.toNat=c4 at h4 hf;have HF:Hid (W.four x=[c1,c2,c3,c4]):=hf;clear hf;have hmade:=qoq w c1 c2 c3 c4;go_enter Tryz.func129,Tryz.ntmps129;go_wp2_with fail;go_ret;exact ⟨by unfold fourB;rw [HF.out];rfl,zB.alloc zL _⟩
theorem specFour (x:B32) (w:World) :
  Calls Tryz.prog 93 #[u32 x] w fun e w'=>qqr x w e w':=by
 obtain ⟨h1,h2,h3,h4⟩:=qma x;have hf:W.four x=[UInt8.ofNat (x.toNat / 16777216),UInt8.ofNat (x.toNat / 65536),UInt8.ofNat (x.toNat / 256),UInt8.ofNat x.toNat]:=rfl;generalize UInt8.ofNat (x.toNat / 16777216)=c1 at h1 hf;generalize UInt8.ofNat (x.toNat / 65536)=c2 at h2 hf;generalize UInt8.ofNat (x.toNat / 256)=c3 at h3 hf;generalize UInt8.ofNat x.toNat=c4 at h4 hf;have HF:Hid (W.four x=[c1,c2,c3,c4]):=hf;clear hf;have hmade:=qoq w c1 c2 c3 c4;go_enter Tryz.func93,Tryz.ntmps93;go_wp2_with fail;go_ret;exact ⟨by unfold fourB;rw [HF.out];rfl,zB.alloc zL _⟩
end Go.Proofs.YtackbhpgdohimaaGreatDoor
/- FrM: . -/
namespace Go.Proofs.YtackbhpgdohimaaGreatDoor.W
end Go.Proofs.YtackbhpgdohimaaGreatDoor.W
/- Var: . -/
namespace Go.Proofs.YtackbhpgdohimaaGreatDoor
set_option maxRecDepth 100000
set_option maxHeartbeats 16000000
open Go.RowKit
theorem implVarText_no (n:Int) (w:World) (hn:n<0\/1000000000<n) :
  Calls Tryz.prog 127 #[.int .i64 n] w fun e w'=>e = .returned (.tuple #[.string ⟨#[]⟩,.bool false])/\Below w.heap.size w w':=by
 rcases hn with h | h
 ·go_enter Tryz.func127,Tryz.ntmps127
  go_wp2_with fail;go_ret2
  exact ⟨rfl,zB⟩
 ·have h0:¬ n<0:=by omega
  go_enter Tryz.func127,Tryz.ntmps127;go_wp2_with fail;go_ret2
  exact ⟨rfl,zB⟩
theorem qek (n:Nat) (w:World) (hn:n<=1000000000) :
  Calls Tryz.prog 127 #[.int .i64 n] w fun e w'=>e = .returned (.tuple #[.string ⟨(W.vt n).toArray⟩,.bool true])/\Below w.heap.size w w':=by
 obtain ⟨i0,hi,hz0,hz1,hz2⟩:=info_parts Tryz.info5;have h1:decide ((n:Int)<0)=false:=by simp
 have h2:decide ((1000000000:Int)<n)=false:=by simp;omega
 go_enter Tryz.func127,Tryz.ntmps127;go_wp2_with fail;go_loopw [0,4] (fun i v wr=>∃ (m:Nat) (l:List UInt8),i = .int .i64 m/\l.length+m<=n/\l++W.vt m=W.vt n/\wr.ownsRow w.heap.size 5 1 v l.length (bv l)/\Below w.heap.size w wr) (fun i _ _=>(intOf i).toNat)
 case atStart=>exact ⟨n,[],rfl,by simp,rfl,World.ownsRow_nil w _ _ _,zB⟩
 case round =>
  obtain ⟨m,l,rfl,hl,ht,hown,hb⟩:=hrel;have hB:=hb.size;have HT:Hid (l++W.vt m=W.vt n):=ht;clear ht
  by_cases hm:127<m
  ·go_wp2_with (at_builtin;refine wpList_append_own _ rfl _ _ 144 rfl w.heap.size 5 i0 (.int .u8 0) 1 1 Tryz.underlying144 hi hz0 hz1 hz2 rfl (by decide) _ _ _ rfl (hown.alloc _) ⟨wr.heap.size,0,none⟩ 1 1 [.int .u8 _] rfl rfl (cell_one_new _ _ _) ?c2 ?c3 ?c4 ?c5 ?_)
   case c2=>intro u hu;simp at hu;subst hu;rfl
   case c3=>unfold maxLen;omega
   case c4=>omega
   case c5=>simp;omega
   ·intro v' w1 hown' hgrow _
    obtain ⟨l',h1,h2,h3,h4⟩:=qpi hB (by omega) hm hl HT.out hown hb hown' hgrow;have H2:Hid (l'++W.vt (m / 128)=W.vt n):=h2;clear hown' hgrow hown h2;go_wp2
    go_roundw
    case rel=>exact ⟨m / 128,l',by go_num,h1,H2.out,h3,h4⟩
    case measure=>simp [intOf];omega
  ·go_wp2_with (at_builtin;refine wpList_append_own _ rfl _ _ 144 rfl w.heap.size 5 i0 (.int .u8 0) 1 1 Tryz.underlying144 hi hz0 hz1 hz2 rfl (by decide) _ _ _ rfl (hown.alloc _) ⟨wr.heap.size,0,none⟩ 1 1 [.int .u8 _] rfl rfl (cell_one_new _ _ _) ?c2 ?c3 ?c4 ?c5 ?_)
   case c2=>intro u hu;simp at hu;subst hu;rfl
   case c3=>unfold maxLen;omega
   case c4=>omega
   case c5=>simp;omega
   ·intro v' w1 hown' hgrow _
    obtain ⟨hc,h4⟩:=qpj hB (by omega) (by omega) HT.out hown hb hown' hgrow;clear hown' hgrow hown;go_wp2
    go_ret2
    exact ⟨rfl,h4⟩
end Go.Proofs.YtackbhpgdohimaaGreatDoor
/- ReadVar: . -/
namespace Go.Proofs.YtackbhpgdohimaaGreatDoor
set_option maxRecDepth 100000
set_option maxHeartbeats 16000000
open Go.RowKit
open Go.PlainAid (bt)
attribute [local go_sem ↓] Go.wp_at_zero Go.wp_at_succ
end Go.Proofs.YtackbhpgdohimaaGreatDoor
/- FrA: . -/
namespace Go.Proofs.YtackbhpgdohimaaGreatDoor
set_option maxRecDepth 100000
set_option maxHeartbeats 16000000
open Go.RowKit
open W (B32)
attribute [local go_sem ↓] Go.wp_at_zero Go.wp_at_succ
def qfl (s:ByteArray):ByteArray:=(⟨(W.vt s.size).toArray⟩++fourB (W.sumOf s))++s
def frV (s:ByteArray):Value:=if 1<=s.size/\s.size<=9000 then .tuple #[.string (qfl s),.bool true] else .tuple #[.string ⟨#[]⟩,.bool false]
theorem specFrame_no (s:ByteArray) (w:World) (h:¬ (1<=s.size/\s.size<=9000)) :
  Calls Tryz.prog 53 #[.string s] w fun e w'=>e = .returned (.tuple #[.string ⟨#[]⟩,.bool false])/\Below w.heap.size w w':=by
 have hd:(decide ((1:Int)<=(s.size:Int))&&decide ((s.size:Int)<=9000))=false:=by
  simp only [Bool.and_eq_false_iff,decide_eq_false_iff_not];omega
 go_enter Tryz.func53,Tryz.ntmps53;go_wp2_with fail;refine (qlf _ _ _ _).mono ?_;rw [hd];rintro e w' ⟨rfl,rfl⟩;go_wp2_with fail;go_ret2
 exact ⟨rfl,zB⟩
theorem implFrame_no (s:ByteArray) (w:World) (h:¬ (1<=s.size/\s.size<=9000)) :
  Calls Tryz.prog 71 #[.string s] w fun e w'=>e = .returned (.tuple #[.string ⟨#[]⟩,.bool false])/\Below w.heap.size w w':=by
 by_cases h1:s.size<1
 ·have h1':(s.size:Int)<1:=by omega
  go_enter Tryz.func71,Tryz.ntmps71;go_wp2_with fail;go_ret2
  exact ⟨rfl,zB⟩
 ·have h1':¬ (s.size:Int)<1:=by omega
  have h2':(9000:Int)<(s.size:Int):=by omega
  go_enter Tryz.func71,Tryz.ntmps71;go_wp2_with fail;go_ret2
  exact ⟨rfl,zB⟩
theorem specFrame_yes (s:ByteArray) (w:World) (h:1<=s.size/\s.size<=9000) :
  Calls Tryz.prog 53 #[.string s] w fun e w'=>e = .returned (.tuple #[.string (qfl s),.bool true])/\Below w.heap.size w w':=by
 have h1:decide ((1:Int)<=(s.size:Int))=true:=by simp;omega
 have h2:decide ((s.size:Int)<=9000)=true:=by simp;omega
 have hl:=W.vt_len s.size;have hz:=qmb (W.sumOf s);obtain ⟨hs1,hs2⟩:=h;go_enter Tryz.func53,Tryz.ntmps53;go_wp2_with fail;refine (qlf _ _ _ _).mono ?_;rw [h1,h2];rintro e w' ⟨rfl,rfl⟩;go_wp2_with fail;refine (qgv s.size _ (by omega)).mono ?_;rintro e w1 ⟨rfl,hb1⟩;go_wp2_with fail;refine (specSumOf s _ (by omega)).mono ?_;rintro e w2 ⟨rfl,rfl⟩;go_wp2_with fail;refine (specFour (W.sumOf s) _).mono ?_;rintro e w3 ⟨rfl,hb3⟩;have hb:=hb1.trans (hb3.mono hb1.size);go_wp2_with fail;go_ret2
 exact ⟨rfl,hb⟩
theorem implFrame_yes (s:ByteArray) (w:World) (ht:SumTab w) (h:1<=s.size/\s.size<=9000) :
  Calls Tryz.prog 71 #[.string s] w fun e w'=>e = .returned (.tuple #[.string (qfl s),.bool true])/\Below w.heap.size w w':=by
 have HT:Hid (SumTab w):=ht;clear ht;have hw:=qib (W.sumOf s);have hl:=W.vt_len s.size;have hz:=qmb (W.sumOf s);obtain ⟨hs1,hs2⟩:=h;have h1':¬ (s.size:Int)<1:=by omega
 have h2':¬ (9000:Int)<(s.size:Int):=by omega
 go_enter Tryz.func71,Tryz.ntmps71;go_wp2_with fail;refine (qek s.size _ (by omega)).mono ?_;rintro e w1 ⟨rfl,hb1⟩;go_wp2_with fail;refine (implSumOf s _ (HT.out.stays hb1) (by omega)).mono ?_;rintro e w2 ⟨rfl,rfl⟩;go_wp2_with fail;refine (implFour (W.sumOf s) _).mono ?_;rintro e w3 ⟨rfl,hb3⟩;have hb:=hb1.trans (hb3.mono hb1.size);go_wp2_with fail;go_ret2
 exact ⟨rfl,hb⟩
theorem qno (s:ByteArray) (w:World):Calls Tryz.prog 53 #[.string s] w fun e w'=>e = .returned (frV s)/\Below w.heap.size w w':=by
 unfold frV
 by_cases h:1<=s.size/\s.size<=9000
 ·rw [if_pos h];exact specFrame_yes s w h
 ·rw [if_neg h];exact specFrame_no s w h
theorem implFrame (s:ByteArray) (w:World) (ht:SumTab w):Calls Tryz.prog 71 #[.string s] w fun e w'=>e = .returned (frV s)/\Below w.heap.size w w':=by
 unfold frV
 by_cases h:1<=s.size/\s.size<=9000
 ·rw [if_pos h];exact implFrame_yes s w ht h
 ·rw [if_neg h];exact implFrame_no s w h
end Go.Proofs.YtackbhpgdohimaaGreatDoor
/- FrS: . -/
namespace Go.Proofs.YtackbhpgdohimaaGreatDoor
set_option maxRecDepth 100000
set_option maxHeartbeats 16000000
open Go.RowKit
attribute [local go_sem ↓] Go.wp_at_zero Go.wp_at_succ
namespace W
end W
theorem qro {s:ByteArray} (h:1<=s.size/\s.size<=9000):frV s = .tuple #[.string (qfl s),.bool true]:=if_pos h
theorem frV_no {s:ByteArray} (h:¬ (1<=s.size/\s.size<=9000)):frV s = .tuple #[.string ⟨#[]⟩,.bool false]:=if_neg h
end Go.Proofs.YtackbhpgdohimaaGreatDoor
/- ReadShort: . -/
namespace Go.Proofs.YtackbhpgdohimaaGreatDoor
set_option maxRecDepth 100000
set_option maxHeartbeats 16000000
open Go.RowKit
attribute [local go_sem ↓] Go.wp_at_zero Go.wp_at_succ
end Go.Proofs.YtackbhpgdohimaaGreatDoor
/- EdE: . -/
namespace Go.Proofs.YtackbhpgdohimaaGreatDoor
set_option maxRecDepth 100000
set_option maxHeartbeats 16000000
open Go.RowKit
open Go.PlainAid (bt)
attribute [local go_sem ↓] Go.wp_at_zero Go.wp_at_succ
def r3 (o:Option (ByteArray × Nat)):ByteArray × Nat × Bool:=match o with
 | none=>(⟨#[]⟩,0,false)
 | some (t,p)=>(t,p,true)
def n3 (o:Option (Nat × Nat)):Nat × Nat × Bool:=match o with
 | none=>(0,0,false)
 | some (t,p)=>(t,p,true)
end Go.Proofs.YtackbhpgdohimaaGreatDoor
/- EcA: . -/
namespace Go.Proofs.YtackbhpgdohimaaGreatDoor
set_option maxRecDepth 100000
set_option maxHeartbeats 16000000
open Go.RowKit
attribute [local go_sem ↓] Go.wp_at_zero Go.wp_at_succ
end Go.Proofs.YtackbhpgdohimaaGreatDoor
/- ShortText: . -/
namespace Go.Proofs.YtackbhpgdohimaaGreatDoor
set_option maxRecDepth 100000
set_option maxHeartbeats 16000000
open Go.RowKit
def qgz (s:ByteArray):ByteArray:=⟨(W.vt s.size).toArray⟩++s
theorem qfa (s:ByteArray) (w:World) (h:s.size<=20000) :
  Calls Tryz.prog 126 #[.string s] w fun e w'=>e = .returned (.tuple #[.string (qgz s),.bool true])/\Below w.heap.size w w':=by
 have hl:=W.vt_len s.size;go_enter Tryz.func126,Tryz.ntmps126;go_wp2_with fail;refine (qek s.size _ (by omega)).mono ?_;rintro e w1 ⟨rfl,hb⟩;go_wp2_with fail;go_ret2
 exact ⟨rfl,hb⟩
end Go.Proofs.YtackbhpgdohimaaGreatDoor
/- VarBack: . -/
namespace Go.Proofs.YtackbhpgdohimaaGreatDoor.W
end Go.Proofs.YtackbhpgdohimaaGreatDoor.W
/- ActB: . -/
namespace Go.Proofs.YtackbhpgdohimaaGreatDoor
set_option maxRecDepth 100000
set_option maxHeartbeats 16000000
open Go.RowKit
attribute [local go_sem ↓] Go.wp_at_zero Go.wp_at_succ



end Go.Proofs.YtackbhpgdohimaaGreatDoor
