/- Texts of ours, laid one behind the other: Dec, StrsB, MemA, UnRm, SlG, HoA, HsM, OpenM, UnRo, HoO, HsO. -/
import Derived.Test.YteaieagkjepgiaaGreatDoorPfM15
import Derived.PlainAid
import Derived.Deep.LoopGhost
import Derived.BigQuiet
import Derived.Deep.QuietTactic
import Derived.Deep.RegionHeld3
import Derived.Deep.DrawnRows
import Derived.Deep.CutRange
import Derived.Deep.Slices
import Derived.Deep.Strs
import Derived.ChangeArms
import Derived.ChangeSame
import Derived.WideShapes
import Derived.OpenShut
set_option linter.unusedVariables false
set_option linter.unusedSimpArgs false
/- . -/
namespace Go.Proofs.YteaieagkjepgiaaGreatDoor
set_option maxRecDepth 100000
open Go.RowKit
open Go.PlainAid (bt)
end Go.Proofs.YteaieagkjepgiaaGreatDoor
/- . -/
namespace Go.Proofs.YteaieagkjepgiaaGreatDoor
set_option maxRecDepth 100000
open Go.RowKit
attribute [local go_sem ↓] Go.wp_at_zero Go.wp_at_succ
def mt (k:Nat):ByteArray:=(⟨#[109]⟩:ByteArray)++⟨(W.decS k).toArray⟩
def marks (k n:Nat):List ByteArray:=(List.range n).map fun j=>mt (k+j)
end Go.Proofs.YteaieagkjepgiaaGreatDoor
/- . -/
namespace Go.Proofs.YteaieagkjepgiaaGreatDoor
set_option maxRecDepth 100000
open Go.RowKit
end Go.Proofs.YteaieagkjepgiaaGreatDoor
/- . -/
namespace Go.Proofs.YteaieagkjepgiaaGreatDoor
set_option maxRecDepth 100000
open Go.RowKit
attribute [local go_sem ↓] Go.wp_at_zero Go.wp_at_succ
end Go.Proofs.YteaieagkjepgiaaGreatDoor
/- . -/
namespace Go.Proofs.YteaieagkjepgiaaGreatDoor
set_option maxRecDepth 100000
open Go.RowKit
structure Str where
  p:World->Prop
  lo:Nat
  hi:Nat
section
variable {w0 W W':World} {S:List Str} {s t:Str}
end
end Go.Proofs.YteaieagkjepgiaaGreatDoor
/- . -/
namespace Go.Proofs.YteaieagkjepgiaaGreatDoor
set_option maxRecDepth 100000
open Go.RowKit
attribute [local go_sem ↓] Go.wp_at_zero Go.wp_at_succ
abbrev hov (H:HM) (a:Option Addr) (cap:Nat):Value:=.agg #[.int .i64 H.id,.bool H.up,.slice a H.us.length cap]
end Go.Proofs.YteaieagkjepgiaaGreatDoor
/- . -/
namespace Go.Proofs.YteaieagkjepgiaaGreatDoor
set_option maxRecDepth 100000
open Go.RowKit
structure HoR where
  h:HM
  loc:Option Addr
  cap:Nat
instance:Inhabited HoR:=⟨⟨default,none,0⟩⟩
def hC (r:HoR):List Value:=[.int .i64 r.h.id,.bool r.h.up,.slice r.loc r.h.us.length r.cap]
theorem hC_len (r:HoR):(hC r).length=3:=rfl
def HK:NK HoR:=⟨hC,3,hC_len,HoR.loc,fun r=>unS r.h.us⟩
def hS (rs:List HoR):List Value:=HK.cells rs
theorem hS_len (rs:List HoR):(hS rs).length=rs.length*3:=HK.cells_len rs
def hms (rs:List HoR):List HM:=rs.map HoR.h
theorem hms_len (rs:List HoR):(hms rs).length=rs.length:=by simp [hms]
def HsRow (w:World) (a:Option Addr) (rs:List HoR):Prop:=CRow w a (hS rs)/\∀ r ∈ rs,UnRow w r.loc r.h.us
def HsFits (hs:List HM):Prop:=hs.length<=9223372036854775807/\∀ h ∈ hs,UnFits h.us/\-9223372036854775808<=h.id/\h.id<=9223372036854775807
end Go.Proofs.YteaieagkjepgiaaGreatDoor
/- . -/
namespace Go.Proofs.YteaieagkjepgiaaGreatDoor
set_option maxRecDepth 100000
open Go.RowKit Go.Deep Go.ChangeShapes Go.WideShapes
theorem rows_from {α:Type} [Inhabited α] {en:α->List Value} {sz:Nat} (hsz:∀ x,(en x).length=sz) (hp0:0<sz) {W:World} {ad:Addr} {len:Nat} {Pr:α->Prop}
    (each:∀ i,i<len->∃ f:α,(∀ r v,(en f)[r]?=some v->W.cell? (ad.add (i*sz+r))=some v)/\Pr f):∃ xs:List α,xs.length=len/\CRow W (some ad) (xs.flatMap en)/\∀ f ∈ xs,Pr f:=by
  obtain ⟨F,hF⟩:=choose_lt each
  have hlen:((List.range len).map F).length=len:=by simp
  have hget:∀ j (hj:j<((List.range len).map F).length),((List.range len).map F)[j]=F j:=by intro j hj;simp
  refine ⟨(List.range len).map F,hlen,?_,?_⟩
  · intro hp
    rw [flat_len hsz,hlen] at hp
    have hl0:0<len:=Nat.pos_of_ne_zero fun e=>by rw [e] at hp;simp at hp
    have h00:∃ v,(en (F 0))[0]?=some v:=by
      have:0<(en (F 0)).length:=by rw [hsz];exact hp0
      exact ⟨_,List.getElem?_eq_getElem this⟩
    obtain ⟨v0,hv0⟩:=h00
    have c0:=(hF 0 hl0).1 0 v0 hv0
    have hs:ad.spot=none:=by
      have:=World.cell?_spot c0
      simpa [Addr.add] using this
    obtain ⟨b,off,spot⟩:=ad
    simp only at hs
    subst hs
    have hadd:∀ i,(⟨b,off,none⟩:Addr).add i=⟨b,off+i,none⟩:=by intro i;cases i <;> simp [Addr.add]
    refine ⟨b,off,rfl,?_,fun i v hv=>?_⟩
    · by_cases hb:b<W.heap.size
      · exact hb
      · unfold World.cell? at c0
        rw [hadd,Array.getElem?_eq_none (by simpa using hb)] at c0
        simp at c0
    · have hi:i<(((List.range len).map F).flatMap en).length:=(List.getElem?_eq_some_iff.1 hv).1
      rw [flat_len hsz,hlen] at hi
      have hq:i / sz<len:=Nat.div_lt_of_lt_mul (by rwa [Nat.mul_comm] at hi)
      have hr:=Nat.mod_lt i hp0
      have ei:i=i / sz*sz+i % sz:=by rw [Nat.mul_comm];exact (Nat.div_add_mod i sz).symm
      have hj:i / sz<((List.range len).map F).length:=by rw [hlen];exact hq
      have l1:=flat_get hsz ((List.range len).map F) (i / sz) hj (i % sz) hr
      rw [hget _ hj,<-ei] at l1
      have:=(hF (i / sz) hq).1 (i % sz) v (by rw [<-l1];exact hv)
      rw [<-ei,hadd] at this
      exact this
  · intro f hf
    obtain ⟨j,hj,rfl⟩:=List.mem_map.1 hf
    exact (hF j (by simpa using hj)).2
end Go.Proofs.YteaieagkjepgiaaGreatDoor
/- . -/
namespace Go.Proofs.YteaieagkjepgiaaGreatDoor
set_option maxRecDepth 100000
open Go.RowKit Go.Deep Go.ChangeShapes Go.WideShapes
theorem cellsLUnit:Tryz.prog.cellsOf 88=4:=by kernel_rfl
theorem cellsTUnit:Tryz.prog.cellsOf 9=1:=by kernel_rfl
theorem cellsNUnit:Tryz.prog.cellsOf 3=1:=by kernel_rfl
set_option maxRecDepth 100000 in
theorem openUnit_cells {H:Type} {enc:TypeId × Value->H} {W:World} {base:Nat} {spare:Nat->Bool} {held:Bool} {n:Nat} {cs:List Value} {x:DataW H × List MemPlace} (h:DataW.trod enc Tryz.prog W base spare held n 88 cs=some x) :
    ∃ f:UnM,cs=unC f/\UnFit f:=by
  obtain ⟨xs,k,_,rfl,hl,hlen,hf⟩:=DataW.trod_struct Tryz.underlying88 h
  rw [cellsLUnit] at hl
  match xs,hlen,cs,hl with
  | [y0,y1,y2,y3],_,[v0,v1,v2,v3],_ =>
    have g0:=hf 0 _ rfl
    have g1:=hf 1 _ rfl
    have g2:=hf 2 _ rfl
    have g3:=hf 3 _ rfl
    simp [cellsTUnit,cellsNUnit] at g0 g1 g2 g3
    obtain ⟨q0,e0,_,z0⟩:=DataW.trod_int Tryz.underlying3 g0
    obtain ⟨q1,e1,_,z1⟩:=DataW.trod_int Tryz.underlying3 g1
    obtain ⟨s2,e2,_,z2⟩:=DataW.trod_string Tryz.underlying9 g2
    obtain ⟨q3,e3,_,z3⟩:=DataW.trod_int Tryz.underlying3 g3
    simp only [List.cons.injEq,and_true] at e0 e1 e2 e3
    subst e0 e1 e2 e3
    unfold maxLen at z2
    exact ⟨⟨q0,q1,s2,q3⟩,rfl,by simpa using z2,bounds_i64 z0,bounds_i64 z1,bounds_i64 z3⟩
theorem openUnitS_cells {H:Type} {enc:TypeId × Value->H} {W:World} {base:Nat} {spare:Nat->Bool} {held:Bool} {va:Option Addr} {vl vc fuel:Nat} {x:DataW H × List MemPlace}
    (h:DataW.trod enc Tryz.prog W base spare held fuel 32 [.slice va vl vc]=some x):∃ xs,vl=List.length (α:=UnM) xs/\UnRow W va xs/\UnFits xs:=by
  rcases open_slice Tryz.underlying32 h with ⟨e,_⟩ | ⟨ad,len,cap,m,n,D,Pl,e,hb,hl,hm,hmm,_,hx⟩
  · simp only [List.cons.injEq,and_true,Value.slice.injEq] at e
    obtain ⟨rfl,rfl,rfl⟩:=e
    exact ⟨[],rfl,fun h=>by simp [unS] at h,by simp,by simp⟩
  · have hlm:len<=m:=by rw [hmm];split <;> omega
    have each:∀ i,i<len->∃ f:UnM,(∀ r v,(unC f)[r]?=some v->W.cell? (ad.add (i*4+r))=some v)/\UnFit f:=by
      intro i hi
      obtain ⟨cs',h1,h2⟩:=hx i (by omega)
      rw [cellsLUnit] at h1
      obtain ⟨_,hlen,hcell⟩:=World.cells?_some h1
      obtain ⟨f,rfl,hfit⟩:=openUnit_cells h2
      refine ⟨f,fun r v hv=>?_,hfit⟩
      have hr:r<(unC f).length:=(List.getElem?_eq_some_iff.1 hv).1
      have c:=hcell r (by rw [unC_len] at hr;omega)
      rw [add_add] at c
      rw [c]
      exact hv
    obtain ⟨xs,hxl,hrow,hall⟩:=rows_from (en:=unC) unC_len (by decide) each
    simp only [List.cons.injEq,and_true,Value.slice.injEq] at e
    obtain ⟨rfl,rfl,rfl⟩:=e
    exact ⟨xs,by rw [hxl],hrow,by rw [hxl];unfold maxLen at hm;omega,hall⟩
end Go.Proofs.YteaieagkjepgiaaGreatDoor
/- . -/
namespace Go.Proofs.YteaieagkjepgiaaGreatDoor
set_option maxRecDepth 100000
open Go.RowKit Go.Deep Go.ChangeShapes Go.WideShapes
theorem cellsLHost:Tryz.prog.cellsOf 34=3:=by kernel_rfl
theorem cellsBHost:Tryz.prog.cellsOf 4=1:=by kernel_rfl
theorem cellsSHost:Tryz.prog.cellsOf 32=1:=by kernel_rfl
theorem openHost_cells {H:Type} {enc:TypeId × Value->H} {W:World} {base:Nat} {spare:Nat->Bool} {held:Bool} {n:Nat} {cs:List Value} {x:DataW H × List MemPlace} (h:DataW.trod enc Tryz.prog W base spare held n 34 cs=some x) :
    ∃ (f:HM) (a:Option Addr) (cap:Nat),cs=[.int .i64 f.id,.bool f.up,.slice a f.us.length cap]/\UnRow W a f.us/\UnFits f.us/\(-9223372036854775808<=f.id/\f.id<=9223372036854775807):=by
  obtain ⟨xs,k,_,rfl,hl,hlen,hf⟩:=DataW.trod_struct Tryz.underlying34 h
  rw [cellsLHost] at hl
  match xs,hlen,cs,hl with
  | [y0,y1,y2],_,[v0,v1,v2],_ =>
    have g0:=hf 0 _ rfl
    have g1:=hf 1 _ rfl
    have g2:=hf 2 _ rfl
    simp [cellsNUnit,cellsBHost,cellsSHost] at g0 g1 g2
    obtain ⟨q0,e0,_,z0⟩:=DataW.trod_int Tryz.underlying3 g0
    obtain ⟨q1,e1,_⟩:=DataW.trod_bool Tryz.underlying4 g1
    simp only [List.cons.injEq,and_true] at e0 e1
    subst e0 e1
    obtain ⟨va,vl,vc,rfl⟩:∃ va vl vc,v2 = .slice va vl vc:=by
      rcases open_slice Tryz.underlying32 g2 with ⟨e,_⟩ | ⟨ad,len,cap,m,n,D,Pl,e,_⟩
      · simp only [List.cons.injEq,and_true] at e
        exact ⟨_,_,_,e⟩
      · simp only [List.cons.injEq,and_true] at e
        exact ⟨_,_,_,e⟩
    obtain ⟨us,rfl,hr,hu⟩:=openUnitS_cells g2
    exact ⟨⟨q0,q1,us⟩,va,vc,rfl,hr,hu,bounds_i64 z0⟩
end Go.Proofs.YteaieagkjepgiaaGreatDoor
/- . -/
namespace Go.Proofs.YteaieagkjepgiaaGreatDoor
set_option maxRecDepth 100000
open Go.RowKit Go.Deep Go.ChangeShapes Go.WideShapes
theorem openHostS_cells {H:Type} {enc:TypeId × Value->H} {W:World} {base:Nat} {spare:Nat->Bool} {held:Bool} {va:Option Addr} {vl vc fuel:Nat} {x:DataW H × List MemPlace}
    (h:DataW.trod enc Tryz.prog W base spare held fuel 22 [.slice va vl vc]=some x):∃ rs,vl=List.length (α:=HoR) rs/\HsRow W va rs/\HsFits (hms rs):=by
  rcases open_slice Tryz.underlying22 h with ⟨e,_⟩ | ⟨ad,len,cap,m,n,D,Pl,e,hb,hl,hm,hmm,_,hx⟩
  · simp only [List.cons.injEq,and_true,Value.slice.injEq] at e
    obtain ⟨rfl,rfl,rfl⟩:=e
    exact ⟨[],rfl,⟨fun h=>by rw [hS_len] at h;simp at h,fun r hr=>by cases hr⟩,by simp [hms],fun r hr=>by cases hr⟩
  · have hlm:len<=m:=by rw [hmm];split <;> omega
    have each:∀ i,i<len->∃ f:HoR,(∀ r v,(hC f)[r]?=some v->W.cell? (ad.add (i*3+r))=some v)/\(UnRow W f.loc f.h.us/\UnFits f.h.us/\-9223372036854775808<=f.h.id/\f.h.id<=9223372036854775807):=by
      intro i hi
      obtain ⟨cs',h1,h2⟩:=hx i (by omega)
      rw [cellsLHost] at h1
      obtain ⟨_,hlen,hcell⟩:=World.cells?_some h1
      obtain ⟨f,a,c,rfl,hr,hu,hi2⟩:=openHost_cells h2
      refine ⟨⟨f,a,c⟩,fun r v hv=>?_,hr,hu,hi2⟩
      have hr:r<3:=(List.getElem?_eq_some_iff.1 hv).1
      have c:=hcell r hr
      rw [add_add] at c
      rw [c]
      exact hv
    obtain ⟨xs,hxl,hrow,hall⟩:=rows_from (en:=hC) hC_len (by decide) each
    simp only [List.cons.injEq,and_true,Value.slice.injEq] at e
    obtain ⟨rfl,rfl,rfl⟩:=e
    refine ⟨xs,by rw [hxl],⟨hrow,fun r hr=>(hall r hr).1⟩,by rw [hms_len,hxl];unfold maxLen at hm;omega,fun h hh=>?_⟩
    obtain ⟨r,hr,rfl⟩:=List.mem_map.1 hh
    exact (hall r hr).2
theorem openHostS {H:Type} {enc:TypeId × Value->H} {W:World} {r:Reach} {b0 base:Nat} {spare:Nat->Bool} {held:Bool} {v:Value} {d:DataW H} {p:List MemPlace}
    (hv:Value.okWide Tryz.prog W r b0 22 v) (h:DataW.Trod enc Tryz.prog W base spare held 22 v d p):∃ a rs cap,v = .slice a (List.length (α:=HoR) rs) cap/\HsRow W a rs/\HsFits (hms rs):=by
  obtain ⟨va,vl,vc,rfl⟩:=okWide_slice Tryz.underlying22 hv
  obtain ⟨fuel,h⟩:=h
  obtain ⟨xs,rfl,hr,hf⟩:=openHostS_cells (by simpa only [Value.cells] using h)
  exact ⟨va,xs,vc,rfl,hr,hf⟩
end Go.Proofs.YteaieagkjepgiaaGreatDoor
