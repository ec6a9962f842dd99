/- Texts of ours, laid one behind the other: DiskP, DiskQ, LawD, DiskO. -/
import Derived.Test.YtoglebfiobofoaaGreatDoorQr5
import Derived.Test.YtoglebfiobofoaaGreatDoorQr3
import Derived.Test.YtoglebfiobofoaaGreatDoorQr4
import Derived.Deep.AppendLies
import Derived.Deep.RegionLaw
import Derived.Deep.Slices
import Derived.Deep.Strs
import Derived.ChangeArms
import Derived.ChangeSame
import Derived.WideShapes
import Derived.OpenShut
/- DiskP: . -/
namespace Go.Proofs.YtoglebfiobofoaaGreatDoor
set_option maxRecDepth 100000
set_option maxHeartbeats 16000000
open Go.RowKit
attribute [local go_sem ↓] Go.wp_at_zero Go.wp_at_succ
theorem markDisk_none (a:Option Addr) (k ca:Nat) (w:World) :
  Calls Tryz.prog 24 #[.agg #[.slice a 0 ca],.int .i64 k] w fun e w'=>e = .returned (.int .i64 k)/\Below w.heap.size w w':=by
 go_enter Tryz.func24,Tryz.ntmps24
 go_wp2_with fail
 refine (markFileS_none a k ca _).mono ?_
 rintro e w1 ⟨rfl,rfl⟩
 go_wp2_with fail
 go_ret
 exact ⟨rfl,(Below.refl _ _).alloc (Nat.le_refl _) _⟩
theorem markDisk_any (g:Nat) (xs:List FM) (k ca:Nat) (w:World) (ha:WCells w g (fcs xs)) (hk:0<k) (hn:k+3*xs.length<=1000000000) (hca:xs.length<=ca) :
  Calls Tryz.prog 24 #[.agg #[.slice (some ⟨g,0,none⟩) xs.length ca],.int .i64 k] w fun e w'=>qpy g k xs.length w e w':=by
 have HA:Hid (WCells (w.alloc (.cells #[.slice (some ⟨g,0,none⟩) xs.length ca] 28)) g (fcs xs)):=ha.alloc _
 have HG0:Hid (w.grownBy (w.alloc (.cells #[.slice (some ⟨g,0,none⟩) xs.length ca] 28)) (some g)):=grownBy_below ((Below.refl _ _).alloc (Nat.le_refl _) _)
 clear ha
 go_enter Tryz.func24,Tryz.ntmps24
 go_wp2_with fail
 refine (markFileS_any g xs k ca _ HA.out hk hn hca).mono ?_
 rintro e w1 ⟨rfl,hw1,hg1⟩
 have HW1:Hid (WCells w1 g (fcs (qeu k xs.length))):=hw1
 have HG1:Hid (w.grownBy w1 (some g)):=qax HG0.out hg1
 clear hw1 hg1
 go_wp2_with fail
 go_ret
 exact ⟨rfl,HW1.out,HG1.out⟩

theorem markDisk_row (va:Option Addr) (xs:List FM) (k ca lo hi:Nat) (w:World) (h:FRw w va (fcs xs) lo hi) (hk:0<k) (hn:k+3*xs.length<=1000000000) (hca:xs.length<=ca) :
  Calls Tryz.prog 24 #[.agg #[.slice va xs.length ca],.int .i64 k] w fun e w'=>e = .returned (.int .i64 (k+3*xs.length:Nat))/\FRw w' va (fcs (qeu k xs.length)) lo hi/\∃ row,w.grownBy w' row/\∀ g,row=some g->lo<=g/\g<hi:=by
 rcases h with ⟨rfl,hX⟩ | ⟨g,rfl,h1,h2,h3⟩
 ·have e:xs=[]:=by
   cases xs with
   | nil=>rfl
   | cons x xs=>simp [fcs,qhw] at hX
  subst e
  refine (markDisk_none none k ca w).mono ?_
  rintro e w' ⟨rfl,hb⟩
  exact ⟨by simp,.inl ⟨rfl,by simp [qeu,fcs]⟩,none,⟨hb.os,hb.tape,hb.output,hb.size,fun k hk _=>hb.block k hk⟩,by simp⟩
 ·refine (markDisk_any g xs k ca w h3 hk hn hca).mono ?_
  rintro e w' ⟨rfl,h4,h5⟩
  exact ⟨rfl,.inr ⟨g,rfl,h1,h2,h4⟩,some g,h5,fun g' e=>by simp at e;omega⟩
end Go.Proofs.YtoglebfiobofoaaGreatDoor
/- DiskO: . -/
namespace Go.Proofs.YtoglebfiobofoaaGreatDoor
set_option maxRecDepth 100000
set_option maxHeartbeats 16000000
open Go.RowKit Go.Deep Go.ChangeShapes Go.WideShapes
variable {held:Bool} {base:Nat} {W:World}
theorem cellsDisk:Tryz.prog.cellsOf 55 = 1:=by kernel_rfl
theorem cellsFileL:Tryz.prog.cellsOf 142 = 3:=by kernel_rfl
theorem cellsFilesL:Tryz.prog.cellsOf 53 = 1:=by kernel_rfl
theorem cellsStr:Tryz.prog.cellsOf 9 = 1:=by kernel_rfl
theorem cellsInt:Tryz.prog.cellsOf 3 = 1:=by kernel_rfl
theorem open_files {H:Type} {enc:TypeId × Value->H} {spare:Nat->Bool} {fuel:Nat} {cs:List Value} {x:DataW H × List MemPlace}
  (h:DataW.trod enc Tryz.prog W base spare held fuel 53 cs=some x):∃ a fs cap,cs=[.slice a (List.length (α:=FM) fs) cap]/\FRow W a fs/\FFit fs:=by
 rcases open_slice Tryz.underlying53 h with ⟨rfl,_⟩ | ⟨ad,len,cap,m,n,D,Pl,rfl,hb,hl,hm,hmm,_,hx⟩
 ·exact ⟨none,[],0,rfl,fun h=>by simp [fcs] at h,by simp,by simp⟩
 ·have hlm:len<=m:=by rw [hmm];split <;> omega
  have each:∀ i,i<len->∃ f:FM,(W.cell? (ad.add (i*3))=some (.string f.name)/\W.cell? (ad.add (i*3+1))=some (.string f.text)/\W.cell? (ad.add (i*3+2))=some (.int .i64 f.kept)) /\
    f.name.size<=9223372036854775807/\f.text.size<=9223372036854775807/\-9223372036854775808<=f.kept/\f.kept<=9223372036854775807:=by
   intro i hi
   obtain ⟨cs',h1,h2⟩:=hx i (by omega)
   rw [cellsFileL] at h1
   obtain ⟨_,hlen,hcell⟩:=World.cells?_some h1
   obtain ⟨y0,y1,y2,k,_,_,g0,g1,g2⟩:=trod_struct3 Tryz.underlying142 h2
   match cs',hlen with
   | [v0,v1,v2],_ =>
    simp only [cellsStr,cellsInt,List.drop_zero,List.drop_succ_cons,List.take_succ_cons,List.take_zero] at g0 g1 g2
    obtain ⟨s0,e0,_,z0⟩:=DataW.trod_string Tryz.underlying9 g0
    obtain ⟨s1,e1,_,z1⟩:=DataW.trod_string Tryz.underlying9 g1
    obtain ⟨q,e2,_,z2⟩:=DataW.trod_int Tryz.underlying3 g2
    have c0:=hcell 0 (by omega)
    have c1:=hcell 1 (by omega)
    have c2:=hcell 2 (by omega)
    rw [add_add] at c0 c1 c2
    simp only [List.cons.injEq,and_true] at e0 e1 e2
    subst e0 e1 e2
    obtain ⟨b0,b1⟩:=bounds_i64 z2
    unfold maxLen at z0 z1
    exact ⟨⟨s0,s1,q⟩,⟨by simpa using c0,by simpa using c1,by simpa using c2⟩,by simpa using z0,by simpa using z1,b0,b1⟩
  obtain ⟨F,hF⟩:=choose_lt each
  have hlen:((List.range len).map F).length=len:=by simp
  have hget:∀ j (hj:j<((List.range len).map F).length),((List.range len).map F)[j]=F j:=by intro j hj;simp
  refine ⟨some ad,(List.range len).map F,cap,by rw [hlen],?_,?_,?_⟩
  ·intro hp
   rw [qly,hlen] at hp
   have hs:ad.spot=none:=by
    have:=World.cell?_spot (hF 0 (by omega)).1.1
    simpa [Addr.add] using this
   obtain ⟨b,off,spot⟩:=ad
   simp only at hs
   subst hs
   have hadd:∀ i,(⟨b,off,none⟩:Addr).add i=⟨b,off+i,none⟩:=by intro i;cases i <;> simp [Addr.add]
   refine ⟨b,off,rfl,?_,fun i v hv=>?_⟩
   ·have c:=(hF 0 (by omega)).1.1
    by_cases hb:b<W.heap.size
    ·exact hb
    ·unfold World.cell? at c
     rw [show ((⟨b,off,none⟩:Addr).add (0*3)).block=b by simp [Addr.add],Array.getElem?_eq_none (by omega)] at c
     simp at c
   ·have hi:i<(fcs ((List.range len).map F)).length:=(List.getElem?_eq_some_iff.1 hv).1
    rw [qly,hlen] at hi
    obtain ⟨q,r,rfl,hr3⟩:∃ q r,i=q*3+r/\r<3:=⟨i / 3,i % 3,by omega,by omega⟩
    have hj:q<((List.range len).map F).length:=by rw [hlen];omega
    have l1:=flat_get qbi ((List.range len).map F) q hj r hr3
    rw [hget _ hj] at l1
    have l2:(qhw (F q))[r]?=some v:=by rw [<-l1];exact hv
    obtain ⟨⟨d0,d1,d2⟩,_⟩:=hF q (by omega)
    rw [hadd] at d0 d1 d2
    have hr:r=0\/r=1\/r=2:=by omega
    rcases hr with rfl | rfl | rfl <;> simp [qhw] at l2 <;> subst l2
    ·exact d0
    ·exact d1
    ·exact d2
  ·rw [hlen];unfold maxLen at hm;omega
  ·intro f hf
   obtain ⟨j,hj,rfl⟩:=List.mem_map.1 hf
   exact (hF j (by simpa using hj)).2
theorem open_disk {H:Type} {enc:TypeId × Value->H} {r:Reach} {b0 base:Nat} {spare:Nat->Bool} {v:Value} {d:DataW H} {p:List MemPlace}
  (hv:Value.okWide Tryz.prog W r b0 55 v) (h:DataW.Trod enc Tryz.prog W base spare held 55 v d p):∃ a fs cap,v = .agg #[.slice a (List.length (α:=FM) fs) cap]/\FRow W a fs/\FFit fs:=by
 obtain ⟨cs,rfl,hsz⟩:=okWide_struct Tryz.underlying55 hv
 rw [cellsDisk] at hsz
 obtain ⟨fuel,hf⟩:=h
 obtain ⟨y0,n,_,_,h0⟩:=trod_struct1 Tryz.underlying55 hf
 obtain ⟨c0,rfl⟩:∃ c0,cs=#[c0]:=by
  match cs,hsz with
  | ⟨[c0]⟩,_=>exact ⟨c0,rfl⟩
 simp only [cellsFilesL,Value.cells,List.drop_zero,List.take_succ_cons,List.take_zero] at h0
 obtain ⟨a,fs,cap,e,h1,h2⟩:=open_files h0
 simp only [List.cons.injEq,and_true] at e
 subst e
 exact ⟨a,fs,cap,rfl,h1,h2⟩
end Go.Proofs.YtoglebfiobofoaaGreatDoor
