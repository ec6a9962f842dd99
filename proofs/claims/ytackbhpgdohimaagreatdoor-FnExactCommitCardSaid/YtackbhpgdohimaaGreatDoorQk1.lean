/- Texts of ours, laid one behind the other: Bytes, RowsG, IntsA, NestA, GenA, TreA, TreC, TreD, TreE, TreF, TreB, DiskA, DiskB, LsA, MemA, SlG, StrsA, DecM. -/
import Derived.Test.YtackbhpgdohimaaGreatDoorRows
import Derived.WalkKit
import Derived.WalkLawsBesides
import Derived.Handy
import Derived.Below
import Derived.Laws.IdiomStrings
import Derived.Laws.BytesArg
import Derived.Maps.AppendAt
import Derived.Laws.DeepStrings4
import Derived.OwnWalk
import Derived.Deep.DrawnRows
import Derived.Deep.RegionHeld3
import Derived.BigQuiet
import Derived.Deep.CutRange
import Derived.PlainAid
import Derived.Deep.QuietTactic
/- Bytes: . -/
namespace Go.Proofs.YtackbhpgdohimaaGreatDoor
set_option maxRecDepth 100000
set_option maxHeartbeats 16000000
open Go.RowKit
attribute [local go_sem ↓] Go.wp_at_zero Go.wp_at_succ
theorem zB {n:Nat}{w:World}:Below n w w:=Below.refl n w
theorem zD {n:Nat}{w:World}:Below n w w.drew:=Below.drew (Below.refl n w)
theorem zL {n:Nat}:n<=n:=Nat.le_refl n
theorem zM {α:Type}{a:α}{l:List α}:a∈a::l:=List.mem_cons_self ..
section
def bv (l:List UInt8):List Value:=l.map fun b=>.int .u8 (b.toNat:Int)
theorem qrh (l:List UInt8) (b:UInt8):bv l++[.int .u8 (b.toNat:Int)]=bv (l++[b]):=by simp [bv]
theorem byte_of (n:Int) (h0:0<=n) (h1:n<256):Value.int .u8 n = .int .u8 ((UInt8.ofNat n.toNat).toNat:Int):=by
 have:(UInt8.ofNat n.toNat).toNat=n.toNat:=by simp;omega
 rw [this];congr 1;omega
theorem Tryz.info5:(Tryz.prog.info? 5).map (fun i=>(i.zero,i.size,i.bytes))=some (some (.int .u8 0),1,1):=by kernel_rfl
theorem own_string {w:World} {base:Nat} {v:Value} {l:List UInt8} (h:w.ownsRow base 5 1 v l.length (bv l)) :
  (convert 144 9 v).run Tryz.prog w = .ok (.string ⟨l.toArray⟩) w:=by
 have hc:∀ g,v.ownBlock=some g->∀ j u,(bv l)[j]?=some u->w.cell? ((⟨g,0,none⟩:Addr).add j)=some u:=fun g hg=>h.cells hg;obtain ⟨h1,⟨rfl,h0⟩ | ⟨g,cap,cur,rfl,_⟩⟩:=h
 ·have:l=[]:=List.eq_nil_of_length_eq_zero h0
  subst this;exact run_convert_bytes_nil _ 144 5 Tryz.underlying144 Tryz.underlying5 0 0 _ Tryz.underlying9
 ·exact run_convert_bytes_back w 144 9 5 ⟨g,0,none⟩ cap l Tryz.underlying144 Tryz.underlying5 Tryz.underlying9 (fun j hj=>hc g rfl j _ (by simp [bv,hj]))
theorem qjs (s:ByteArray) (a b:Nat) (h1:a<=b) (h2:b<=s.size) (w:World) :
  (Instr.slice 9 (.string s) (some (.int .i64 (a:Int))) (some (.int .i64 (b:Int))) none).run Tryz.prog w = .ok (.string (s.extract a b)) w:=by
 rw [run_slice_string_if w 9 s .i64 .i64 a b Tryz.underlying9,if_pos ⟨by omega,by omega⟩,if_pos ⟨by omega,by omega⟩]
 rfl
theorem qch {α:Type} {enc:α->List Value} {sz:Nat} (hsz:∀ x,(enc x).length=sz) (xs:List α):(xs.flatMap enc).length=xs.length*sz:=by
 induction xs with
 | nil=>simp
 | cons x xs ih=>simp only [List.flatMap_cons,List.length_append,List.length_cons,ih,hsz,Nat.add_mul];omega
theorem flat_get {α:Type} {enc:α->List Value} {sz:Nat} (hsz:∀ x,(enc x).length=sz) (xs:List α) (j:Nat) (h:j<xs.length) (i:Nat) (hi:i<sz):(xs.flatMap enc)[j*sz+i]?=(enc xs[j])[i]?:=by
 induction xs generalizing j with
 | nil=>simp at h
 | cons x xs ih =>
  rw [List.flatMap_cons]
  cases j with
  | zero =>
   rw [List.getElem?_append_left (by rw [hsz];omega)];simp
  | succ j =>
   rw [List.getElem?_append_right (by rw [hsz,Nat.add_mul];omega),hsz];have:=ih j (by simpa using h);rw [show (j+1)*sz+i - sz=j*sz+i by rw [Nat.add_mul];omega]
   simpa using this
theorem qqp {α:Type} {enc:α->List Value} {sz:Nat} (hsz:∀ x,(enc x).length=sz) (xs:List α) (j:Nat) (h:j<xs.length) (y:α) (n:Nat) (hn:n<xs.length*sz) :
  ((xs.set j y).flatMap enc)[n]?=if n / sz=j then (enc y)[n % sz]? else (xs.flatMap enc)[n]?:=by
 have hp:0<sz:=by
  cases sz with
  | zero=>simp at hn
  | succ s=>omega
 have hq:n / sz<xs.length:=Nat.div_lt_of_lt_mul (by rwa [Nat.mul_comm] at hn);have hr:=Nat.mod_lt n hp;have e:n=n / sz*sz+n % sz:=by rw [Nat.mul_comm];exact (Nat.div_add_mod n sz).symm
 have l1:=flat_get hsz (xs.set j y) (n / sz) (by simpa using hq) (n % sz) hr;have l2:=flat_get hsz xs (n / sz) hq (n % sz) hr;rw [<-e] at l1 l2;rw [l1,l2]
 by_cases c:n / sz=j
 ·subst c;simp
 ·rw [if_neg c,List.getElem_set_ne (Ne.symm c)]
def CRow (w:World) (a:Option Addr) (L:List Value):Prop:=
 0<L.length->∃ b off,a=some ⟨b,off,none⟩/\b<w.heap.size/\∀ i v,L[i]?=some v->w.cell? ⟨b,off+i,none⟩=some v
theorem CRow.stays {w w':World} {a:Option Addr} {L:List Value} (h:CRow w a L) (hb:Below w.heap.size w w'):CRow w' a L:=by
 intro hp;obtain ⟨b,off,e,hlt,hc⟩:=h hp;exact ⟨b,off,e,Nat.lt_of_lt_of_le hlt hb.size,fun i v hv=>by rw [hb.cell (p:=⟨b,off+i,none⟩) hlt];exact hc i v hv⟩
def WCells (w:World) (g:Nat) (L:List Value):Prop:=
 g<w.heap.size/\∀ i v,L[i]?=some v->w.cell? ⟨g,i,none⟩=some v/\w.frozen? ⟨g,i,none⟩=false
theorem WCells.crow {w:World} {g:Nat} {L:List Value} (h:WCells w g L):CRow w (some ⟨g,0,none⟩) L:=fun _=>⟨g,0,rfl,h.1,fun i v hv=>by rw [Nat.zero_add];exact (h.2 i v hv).1⟩
theorem WCells.below {w w':World} {g B:Nat} {L:List Value} (h:WCells w g L) (hb:Below B w w') (hg:g<B):WCells w' g L:=
 ⟨Nat.lt_of_lt_of_le h.1 hb.size,fun i v hv=>⟨(hb.cell (p:=⟨g,i,none⟩) hg).trans (h.2 i v hv).1,(hb.frozen (p:=⟨g,i,none⟩) hg).trans (h.2 i v hv).2⟩⟩
theorem WCells.set {w:World} {g:Nat} {L:List Value} (h:WCells w g L) (i:Nat) (x:Value) (hi:i<L.length):WCells (w.setCell ⟨g,i,none⟩ x) g (L.set i x):=by
 refine ⟨by have:=h.1;simpa [World.setCell] using this,fun j v hv=>?_⟩
 have hj:j<L.length:=by
  have:=(List.getElem?_eq_some_iff.1 hv).1
  simpa using this
 have hold:=h.2 j L[j] (List.getElem?_eq_getElem hj);refine ⟨?_,(World.frozen?_setCell _ _ _ _).trans hold.2⟩
 by_cases e:j=i
 ·subst e
  rw [World.cell?_setCell_same _ _ _ hold.1];rw [List.getElem?_set_self hi] at hv;exact hv
 ·rw [World.cell?_setCell_other _ _ _ _ (by first | (simp;done) | (simp;omega)),hold.1]
  rw [List.getElem?_set_ne (Ne.symm e),List.getElem?_eq_getElem hj] at hv;exact hv
theorem qan {w:World} {B g n cap t sz:Nat} {L:List Value} (h:w.ownsRow B t sz (.slice (some ⟨g,0,none⟩) n cap) n L):WCells w g L:=by
 have hc:=h.cells (g:=g) rfl;have hlt:=h.lt g rfl;obtain ⟨_,⟨h0,_⟩ | ⟨g',cap',cur,he,hB,hcur,_,_,_,_⟩⟩:=h
 ·cases h0
 ·have eg:g'=g:=by simp at he;exact he.1.symm
  subst eg;refine ⟨hlt.2,fun j v hj=>⟨?_,?_⟩⟩
  ·have:=hc j v hj
   have e:(⟨g',0,none⟩:Addr).add j=⟨g',j,none⟩:=by cases j <;> simp [Addr.add]
   rw [e] at this;exact this
  ·unfold World.frozen?
   rw [hcur];simp
def setL (L:List Value) (off:Nat):List Value->List Value
 | []=>L
 | v::vs=>setL (L.set off v) (off+1) vs
def setW (w:World) (g off:Nat):List Value->World
 | []=>w
 | v::vs=>setW (w.setCell ⟨g,off,none⟩ v) g (off+1) vs
theorem qop (c:Value) (L:List Value) (off:Nat) (vs:List Value):setL (c::L) (off+1) vs=c::setL L off vs:=by
 induction vs generalizing L off with
 | nil=>rfl
 | cons v vs ih=>simp only [setL,List.set_cons_succ];exact ih _ _
theorem setL_app (A L:List Value) (off:Nat) (vs:List Value):setL (A++L) (A.length+off) vs=A++setL L off vs:=by
 induction A with
 | nil=>simp
 | cons a A ih=>rw [List.cons_append,List.length_cons,show A.length+1+off=(A.length+off)+1 by omega,qop,ih];rfl
theorem setL_head (A R B:List Value) (h:A.length=B.length):setL (A++R) 0 B=B++R:=by
 induction B generalizing A with
 | nil=>simp at h;subst h;rfl
 | cons b B ih =>
  cases A with
  | nil=>simp at h
  | cons a A =>
   simp only [List.cons_append,setL,List.set_cons_zero,qop];rw [ih A (by simpa using h)]
theorem qkt {α:Type} {enc:α->List Value} {sz:Nat} (hsz:∀ x,(enc x).length=sz) (xs:List α) (j:Nat) (h:j<xs.length) (y:α):setL (xs.flatMap enc) (j*sz) (enc y)=(xs.set j y).flatMap enc:=by
 induction xs generalizing j with
 | nil=>simp at h
 | cons x xs ih =>
  cases j with
  | zero =>
   simp only [Nat.zero_mul,List.flatMap_cons,List.set_cons_zero];exact setL_head _ _ _ (by rw [hsz,hsz])
  | succ j =>
   simp only [List.flatMap_cons,List.set_cons_succ];rw [show (j+1)*sz=(enc x).length+j*sz by rw [hsz,Nat.add_mul];omega,setL_app,ih j (by simpa using h)]
theorem WCells.setW {w:World} {g:Nat} {L:List Value} (h:WCells w g L) (off:Nat) (vs:List Value) (hl:off+vs.length<=L.length):WCells (setW w g off vs) g (setL L off vs):=by
 induction vs generalizing w L off with
 | nil=>exact h
 | cons v vs ih =>
  simp only [List.length_cons] at hl;exact ih (h.set off v (by omega)) (off+1) (by rw [List.length_set];omega)
theorem WCells.setElem {α:Type} {enc:α->List Value} {sz:Nat} (hsz:∀ x,(enc x).length=sz) {w:World} {g:Nat} {xs:List α} (h:WCells w g (xs.flatMap enc)) (j:Nat) (hj:j<xs.length) (y:α) :
  WCells (Go.Proofs.YtackbhpgdohimaaGreatDoor.setW w g (j*sz) (enc y)) g ((xs.set j y).flatMap enc):=by
 have hl:j*sz+(enc y).length<=(xs.flatMap enc).length:=by
  rw [hsz,qch hsz];have:=Nat.mul_le_mul_right sz (show j+1<=xs.length by omega);rw [Nat.add_mul] at this;omega
 have:=h.setW (j*sz) (enc y) hl
 rwa [qkt hsz xs j hj y] at this
theorem qdx {B g:Nat} {a w:World} (h:Below B a w) (hg:B<=g) (off:Nat) (vs:List Value):Below B a (setW w g off vs):=by
 induction vs generalizing w off with
 | nil=>exact h
 | cons v vs ih=>exact ih (h.setCell (p:=⟨g,off,none⟩) hg v) _
theorem qhx {α:Type} {enc:α->List Value} {sz:Nat} (hsz:∀ x,(enc x).length=sz) (hp:0<sz) (z:Array Value) (d:α) (hz:z.toList=enc d) (n:Nat):(madeCells z (n*sz)).toList=(List.replicate n d).flatMap enc:=by
 have hzs:z.size=sz:=by rw [<-Array.length_toList,hz,hsz]
 apply List.ext_getElem?;intro i
 by_cases hi:i<n*sz
 ·have hq:i / sz<n:=Nat.div_lt_of_lt_mul (by rwa [Nat.mul_comm] at hi)
  have hr:=Nat.mod_lt i hp;have e:i=i / sz*sz+i % sz:=by rw [Nat.mul_comm];exact (Nat.div_add_mod i sz).symm
  have l1:=flat_get hsz (List.replicate n d) (i / sz) (by simpa using hq) (i % sz) hr;rw [<-e] at l1;rw [l1,List.getElem_replicate,<-hz];unfold madeCells;have h3:i % sz<z.size:=by omega
  simp [hi,hzs];rw [getElem!_pos z (i % sz) h3,Array.getElem?_eq_getElem h3]
 ·rw [List.getElem?_eq_none (by rw [Array.length_toList,size_madeCells];omega),List.getElem?_eq_none (by rw [qch hsz];simp;omega)]
theorem qac (w:World) (cs:Array Value) (t:TypeId):WCells (w.alloc (.cells cs t)) w.heap.size cs.toList:=by
 refine ⟨by simp,fun i v hv=>⟨?_,?_⟩⟩
 ·rw [World.cell?_alloc_new];simpa using hv
 ·unfold World.frozen?
  rw [heap_alloc_new];simp
theorem WCells.alloc {w:World} {g:Nat} {L:List Value} (h:WCells w g L) (o:Obj):WCells (w.alloc o) g L:=h.below (zB.alloc zL o) h.1
theorem WCells.grow {w w':World} {g:Nat} {L:List Value} (h:WCells w g L) (hb:Below w.heap.size w w'):WCells w' g L:=h.below hb h.1
theorem WCells.other {w:World} {g:Nat} {L:List Value} (h:WCells w g L) (p:Addr) (x:Value) (hp:g ≠ p.block):WCells (w.setCell p x) g L:=by
 refine ⟨by have:=h.1;simpa [World.setCell] using this,fun j v hv=>?_⟩;have hold:=h.2 j v hv;refine ⟨?_,(World.frozen?_setCell _ _ _ _).trans hold.2⟩;rw [<-hold.1];exact World.cell?_of_block (Below.heap_setCell w p x g hp)
structure Sh (p:Prop):Prop where
 out:p
theorem zS {p:Prop}(h:p):Sh p:=⟨h⟩
theorem bwb2 {W:World} {b:Nat} {c0 c1:Value} {r:List Value} (h:WCells W b (c0::c1::r)):W.cell? ⟨b,0,none⟩=some c0/\W.cell? ⟨b,1,none⟩=some c1:=⟨(h.2 0 _ rfl).1,(h.2 1 _ rfl).1⟩
theorem bwb3 {W:World} {b:Nat} {c0 c1 c2:Value} {r:List Value} (h:WCells W b (c0::c1::c2::r)):W.cell? ⟨b,0,none⟩=some c0/\W.cell? ⟨b,1,none⟩=some c1/\W.cell? ⟨b,2,none⟩=some c2:=⟨(h.2 0 _ rfl).1,(h.2 1 _ rfl).1,(h.2 2 _ rfl).1⟩
theorem bwb4 {W:World} {b:Nat} {c0 c1 c2 c3:Value} {r:List Value} (h:WCells W b (c0::c1::c2::c3::r)):W.cell? ⟨b,0,none⟩=some c0/\W.cell? ⟨b,1,none⟩=some c1/\W.cell? ⟨b,2,none⟩=some c2/\W.cell? ⟨b,3,none⟩=some c3:=⟨(h.2 0 _ rfl).1,(h.2 1 _ rfl).1,(h.2 2 _ rfl).1,(h.2 3 _ rfl).1⟩
theorem bwb5 {W:World} {b:Nat} {c0 c1 c2 c3 c4:Value} {r:List Value} (h:WCells W b (c0::c1::c2::c3::c4::r)):W.cell? ⟨b,0,none⟩=some c0/\W.cell? ⟨b,1,none⟩=some c1/\W.cell? ⟨b,2,none⟩=some c2/\W.cell? ⟨b,3,none⟩=some c3/\W.cell? ⟨b,4,none⟩=some c4:=⟨(h.2 0 _ rfl).1,(h.2 1 _ rfl).1,(h.2 2 _ rfl).1,(h.2 3 _ rfl).1,(h.2 4 _ rfl).1⟩
theorem bwb7 {W:World} {b:Nat} {c0 c1 c2 c3 c4 c5 c6:Value} {r:List Value} (h:WCells W b (c0::c1::c2::c3::c4::c5::c6::r)):W.cell? ⟨b,0,none⟩=some c0/\W.cell? ⟨b,1,none⟩=some c1/\W.cell? ⟨b,2,none⟩=some c2/\W.cell? ⟨b,3,none⟩=some c3/\W.cell? ⟨b,4,none⟩=some c4/\W.cell? ⟨b,5,none⟩=some c5/\W.cell? ⟨b,6,none⟩=some c6:=⟨(h.2 0 _ rfl).1,(h.2 1 _ rfl).1,(h.2 2 _ rfl).1,(h.2 3 _ rfl).1,(h.2 4 _ rfl).1,(h.2 5 _ rfl).1,(h.2 6 _ rfl).1⟩
theorem bwb9 {W:World} {b:Nat} {c0 c1 c2 c3 c4 c5 c6 c7 c8:Value} {r:List Value} (h:WCells W b (c0::c1::c2::c3::c4::c5::c6::c7::c8::r)):W.cell? ⟨b,0,none⟩=some c0/\W.cell? ⟨b,1,none⟩=some c1/\W.cell? ⟨b,2,none⟩=some c2/\W.cell? ⟨b,3,none⟩=some c3/\W.cell? ⟨b,4,none⟩=some c4/\W.cell? ⟨b,5,none⟩=some c5/\W.cell? ⟨b,6,none⟩=some c6/\W.cell? ⟨b,7,none⟩=some c7/\W.cell? ⟨b,8,none⟩=some c8:=⟨(h.2 0 _ rfl).1,(h.2 1 _ rfl).1,(h.2 2 _ rfl).1,(h.2 3 _ rfl).1,(h.2 4 _ rfl).1,(h.2 5 _ rfl).1,(h.2 6 _ rfl).1,(h.2 7 _ rfl).1,(h.2 8 _ rfl).1⟩
theorem bwc2 {W:World} {b:Nat} {c0 c1:Value} {r:List Value} (h:WCells W b (c0::c1::r)):W.cell? ⟨b,0,none⟩=some c0/\W.frozen? ⟨b,0,none⟩=false/\W.cell? ⟨b,1,none⟩=some c1/\W.frozen? ⟨b,1,none⟩=false:=⟨(h.2 0 _ rfl).1,(h.2 0 _ rfl).2,(h.2 1 _ rfl).1,(h.2 1 _ rfl).2⟩
theorem bwc3 {W:World} {b:Nat} {c0 c1 c2:Value} {r:List Value} (h:WCells W b (c0::c1::c2::r)):W.cell? ⟨b,0,none⟩=some c0/\W.frozen? ⟨b,0,none⟩=false/\W.cell? ⟨b,1,none⟩=some c1/\W.frozen? ⟨b,1,none⟩=false/\W.cell? ⟨b,2,none⟩=some c2/\W.frozen? ⟨b,2,none⟩=false:=⟨(h.2 0 _ rfl).1,(h.2 0 _ rfl).2,(h.2 1 _ rfl).1,(h.2 1 _ rfl).2,(h.2 2 _ rfl).1,(h.2 2 _ rfl).2⟩
theorem bwc4 {W:World} {b:Nat} {c0 c1 c2 c3:Value} {r:List Value} (h:WCells W b (c0::c1::c2::c3::r)):W.cell? ⟨b,0,none⟩=some c0/\W.frozen? ⟨b,0,none⟩=false/\W.cell? ⟨b,1,none⟩=some c1/\W.frozen? ⟨b,1,none⟩=false/\W.cell? ⟨b,2,none⟩=some c2/\W.frozen? ⟨b,2,none⟩=false/\W.cell? ⟨b,3,none⟩=some c3/\W.frozen? ⟨b,3,none⟩=false:=⟨(h.2 0 _ rfl).1,(h.2 0 _ rfl).2,(h.2 1 _ rfl).1,(h.2 1 _ rfl).2,(h.2 2 _ rfl).1,(h.2 2 _ rfl).2,(h.2 3 _ rfl).1,(h.2 3 _ rfl).2⟩
theorem bwc7 {W:World} {b:Nat} {c0 c1 c2 c3 c4 c5 c6:Value} {r:List Value} (h:WCells W b (c0::c1::c2::c3::c4::c5::c6::r)):W.cell? ⟨b,0,none⟩=some c0/\W.frozen? ⟨b,0,none⟩=false/\W.cell? ⟨b,1,none⟩=some c1/\W.frozen? ⟨b,1,none⟩=false/\W.cell? ⟨b,2,none⟩=some c2/\W.frozen? ⟨b,2,none⟩=false/\W.cell? ⟨b,3,none⟩=some c3/\W.frozen? ⟨b,3,none⟩=false/\W.cell? ⟨b,4,none⟩=some c4/\W.frozen? ⟨b,4,none⟩=false/\W.cell? ⟨b,5,none⟩=some c5/\W.frozen? ⟨b,5,none⟩=false/\W.cell? ⟨b,6,none⟩=some c6/\W.frozen? ⟨b,6,none⟩=false:=⟨(h.2 0 _ rfl).1,(h.2 0 _ rfl).2,(h.2 1 _ rfl).1,(h.2 1 _ rfl).2,(h.2 2 _ rfl).1,(h.2 2 _ rfl).2,(h.2 3 _ rfl).1,(h.2 3 _ rfl).2,(h.2 4 _ rfl).1,(h.2 4 _ rfl).2,(h.2 5 _ rfl).1,(h.2 5 _ rfl).2,(h.2 6 _ rfl).1,(h.2 6 _ rfl).2⟩
theorem bwc9 {W:World} {b:Nat} {c0 c1 c2 c3 c4 c5 c6 c7 c8:Value} {r:List Value} (h:WCells W b (c0::c1::c2::c3::c4::c5::c6::c7::c8::r)):W.cell? ⟨b,0,none⟩=some c0/\W.frozen? ⟨b,0,none⟩=false/\W.cell? ⟨b,1,none⟩=some c1/\W.frozen? ⟨b,1,none⟩=false/\W.cell? ⟨b,2,none⟩=some c2/\W.frozen? ⟨b,2,none⟩=false/\W.cell? ⟨b,3,none⟩=some c3/\W.frozen? ⟨b,3,none⟩=false/\W.cell? ⟨b,4,none⟩=some c4/\W.frozen? ⟨b,4,none⟩=false/\W.cell? ⟨b,5,none⟩=some c5/\W.frozen? ⟨b,5,none⟩=false/\W.cell? ⟨b,6,none⟩=some c6/\W.frozen? ⟨b,6,none⟩=false/\W.cell? ⟨b,7,none⟩=some c7/\W.frozen? ⟨b,7,none⟩=false/\W.cell? ⟨b,8,none⟩=some c8/\W.frozen? ⟨b,8,none⟩=false:=⟨(h.2 0 _ rfl).1,(h.2 0 _ rfl).2,(h.2 1 _ rfl).1,(h.2 1 _ rfl).2,(h.2 2 _ rfl).1,(h.2 2 _ rfl).2,(h.2 3 _ rfl).1,(h.2 3 _ rfl).2,(h.2 4 _ rfl).1,(h.2 4 _ rfl).2,(h.2 5 _ rfl).1,(h.2 5 _ rfl).2,(h.2 6 _ rfl).1,(h.2 6 _ rfl).2,(h.2 7 _ rfl).1,(h.2 7 _ rfl).2,(h.2 8 _ rfl).1,(h.2 8 _ rfl).2⟩
def ics (xs:List Int):List Value:=xs.map fun x=>.int .i64 x
theorem ics_len (xs:List Int):(ics xs).length=xs.length:=by simp [ics]
theorem qjm:(Tryz.prog.info? 3).map (fun i=>(i.zero,i.size,i.bytes))=some (some (.int .i64 0),1,8):=by kernel_rfl
theorem qam (w:World) (g i:Nat) (v:Value):w.grownBy (w.setCell ⟨g,i,none⟩ v) (some g):=
 ⟨rfl,rfl,rfl,by simp [World.setCell],fun k _ hk=>Below.heap_setCell w ⟨g,i,none⟩ v k (fun e=>hk (by rw [e]))⟩
theorem qed {a b c:World} {g:Nat} (h:a.grownBy b (some g)) (k:b.grownBy c (some g)):a.grownBy c (some g):=
 ⟨k.os.trans h.os,k.tape.trans h.tape,k.output.trans h.output,Nat.le_trans h.size k.size,fun j hj hn=>(k.block j (Nat.lt_of_lt_of_le hj h.size) hn).trans (h.block j hj hn)⟩
structure Turned (w w':World) (lo hi:Nat):Prop where
 base:Below 0 w w'
 block:∀ k,k<w.heap.size->(k<lo\/hi<=k)->w'.heap[k]?=w.heap[k]?
theorem Turned.refl (w:World) (lo hi:Nat):Turned w w lo hi:=⟨zB,fun _ _ _=>rfl⟩
theorem Turned.trans {a b c:World} {lo hi:Nat} (h:Turned a b lo hi) (k:Turned b c lo hi):Turned a c lo hi:=
 ⟨h.base.trans k.base,fun i hi' ho=>(k.block i (Nat.lt_of_lt_of_le hi' h.base.size) ho).trans (h.block i hi' ho)⟩
theorem Turned.of_below {w w':World} (h:Below w.heap.size w w') (lo hi:Nat):Turned w w' lo hi:=⟨h.mono (Nat.zero_le _),fun k hk _=>h.block k hk⟩
theorem Turned.of_grown {w w':World} {g lo hi:Nat} (h:w.grownBy w' (some g)) (h1:lo<=g) (h2:g<hi):Turned w w' lo hi:=
 ⟨⟨h.os,h.tape,h.output,h.size,fun k hk=>by omega⟩,fun k hk ho=>h.block k hk (by intro e;cases e;omega)⟩
theorem Turned.wide {w w':World} {lo hi lo' hi':Nat} (h:Turned w w' lo hi) (h1:lo'<=lo) (h2:hi<=hi'):Turned w w' lo' hi':=⟨h.base,fun k hk ho=>h.block k hk (by omega)⟩
theorem Turned.size {w w':World} {lo hi:Nat} (h:Turned w w' lo hi):w.heap.size<=w'.heap.size:=h.base.size
def RRow (w:World) (a:Option Addr) (L:List Value) (lo hi:Nat):Prop:=
 0<L.length->∃ b off,a=some ⟨b,off,none⟩/\lo<=b/\b<hi/\b<w.heap.size/\∀ i v,L[i]?=some v->w.cell? ⟨b,off+i,none⟩=some v
theorem RRow.of_crow {w:World} {a:Option Addr} {L:List Value} (h:CRow w a L):RRow w a L 0 w.heap.size:=fun hp=>by
 obtain ⟨b,off,e,h3,h4⟩:=h hp;exact ⟨b,off,e,Nat.zero_le _,h3,h3,h4⟩
theorem RRow.turned {w w':World} {a:Option Addr} {L:List Value} {lo hi lo' hi':Nat} (h:RRow w a L lo hi) (t:Turned w w' lo' hi') (hd:hi<=lo'\/hi'<=lo):RRow w' a L lo hi:=fun hp=>by
 obtain ⟨b,off,e,h1,h2,h3,h4⟩:=h hp;exact ⟨b,off,e,h1,h2,Nat.lt_of_lt_of_le h3 t.size,fun i v hv=>(World.cell?_of_block (a:=⟨b,off+i,none⟩) (t.block b h3 (by omega))).trans (h4 i v hv)⟩
theorem RRow.below {w w':World} {a:Option Addr} {L:List Value} {lo hi:Nat} (h:RRow w a L lo hi) (hb:Below w.heap.size w w'):RRow w' a L lo hi:=fun hp=>by
 obtain ⟨b,off,e,h1,h2,h3,h4⟩:=h hp;exact ⟨b,off,e,h1,h2,Nat.lt_of_lt_of_le h3 hb.size,fun i v hv=>(hb.cell (p:=⟨b,off+i,none⟩) h3).trans (h4 i v hv)⟩
theorem RRow.of_wcells {w:World} {g lo hi:Nat} {L:List Value} (h:WCells w g L) (h1:lo<=g) (h2:g<hi):RRow w (some ⟨g,0,none⟩) L lo hi:=fun _=>⟨g,0,rfl,h1,h2,h.1,fun i v hv=>by rw [Nat.zero_add];exact (h.2 i v hv).1⟩
theorem WCells.turned {w w':World} {g lo hi:Nat} {L:List Value} (h:WCells w g L) (t:Turned w w' lo hi) (hd:g<lo\/hi<=g):WCells w' g L:=
 ⟨Nat.lt_of_lt_of_le h.1 t.size,fun i v hv=>⟨(World.cell?_of_block (a:=⟨g,i,none⟩) (t.block g h.1 hd)).trans (h.2 i v hv).1,(World.frozen?_of_block (a:=⟨g,i,none⟩) (t.block g h.1 hd)).trans (h.2 i v hv).2⟩⟩
theorem WCells.apart {w w':World} {g q:Nat} {L:List Value} (h:WCells w g L) (t:w.grownBy w' (some q)) (hd:g ≠ q):WCells w' g L:=
 h.turned (Turned.of_grown (lo:=q) (hi:=q+1) t zL (by omega)) (by omega)
structure SR where
 loc:Option Addr
 row:List Int
 cap:Nat
instance:Inhabited SR:=⟨⟨none,[],0⟩⟩
structure NK (R:Type) where
 enc:R->List Value
 sz:Nat
 len:∀ r,(enc r).length=sz
 loc:R->Option Addr
 inn:R->List Value
def NK.cells {R:Type} (K:NK R) (rs:List R):List Value:=rs.flatMap K.enc
theorem NK.cells_len {R:Type} (K:NK R) (rs:List R):(K.cells rs).length=rs.length*K.sz:=qch K.len rs
theorem NK.cells_get {R:Type} (K:NK R) (rs:List R) (j:Nat) (h:j<rs.length) (i:Nat) (hi:i<K.sz):(K.cells rs)[j*K.sz+i]?=(K.enc rs[j])[i]?:=flat_get K.len rs j h i hi
def GR {R:Type} (K:NK R) (w:World) (a:Option Addr) (rs:List R) (lo hi:Nat):Prop:=RRow w a (K.cells rs) lo hi/\∀ r ∈ rs,RRow w (K.loc r) (K.inn r) lo hi
theorem GR.turned {R:Type} {K:NK R} {w w':World} {a:Option Addr} {rs:List R} {lo hi lo' hi':Nat} (h:GR K w a rs lo hi) (t:Turned w w' lo' hi') (hd:hi<=lo'\/hi'<=lo):GR K w' a rs lo hi:=⟨h.1.turned t hd,fun r hr=>(h.2 r hr).turned t hd⟩
theorem GR.below {R:Type} {K:NK R} {w w':World} {a:Option Addr} {rs:List R} {lo hi:Nat} (h:GR K w a rs lo hi) (hb:Below w.heap.size w w'):GR K w' a rs lo hi:=⟨h.1.below hb,fun r hr=>(h.2 r hr).below hb⟩
theorem GR.nil {R:Type} (K:NK R) (w:World) (a:Option Addr) (lo hi:Nat):GR K w a [] lo hi:=⟨fun h=>by simp [NK.cells] at h,by simp⟩
theorem GR.at {R:Type} {K:NK R} {w:World} {a:Option Addr} {rs:List R} {lo hi:Nat} (h:GR K w a rs lo hi) (hp:0<rs.length) (hz:0<K.sz) :
  ∃ b off,a=some ⟨b,off,none⟩/\b<w.heap.size/\∀ j (hj:j<rs.length) i v,(K.enc rs[j])[i]?=some v->w.cell? ⟨b,off+(j*K.sz+i),none⟩=some v:=by
 obtain ⟨b,off,e,_,_,h3,h4⟩:=h.1 (by rw [K.cells_len];exact Nat.mul_pos hp hz);refine ⟨b,off,e,h3,fun j hj i v hv=>h4 _ v ?_⟩;have hi:i<K.sz:=by have:=(List.getElem?_eq_some_iff.1 hv).1;rw [K.len] at this;exact this
 rw [K.cells_get rs j hj i hi];exact hv
structure GW {R:Type} (K:NK R) (w:World) (g:Nat) (rs:List R) (lo hi:Nat):Prop where
 out:WCells w g (K.cells rs)
 glo:lo<=g
 ghi:g<hi
 rows:∀ r ∈ rs,K.inn r=[]\/∃ b,K.loc r=some ⟨b,0,none⟩/\lo<=b/\b<hi/\b ≠ g/\WCells w b (K.inn r)
 apart:rs.Pairwise fun r s=>K.inn r ≠ []->K.inn s ≠ []->K.loc r ≠ K.loc s
theorem GW.gr {R:Type} {K:NK R} {w:World} {g:Nat} {rs:List R} {lo hi:Nat} (h:GW K w g rs lo hi):GR K w (some ⟨g,0,none⟩) rs lo hi:=
 ⟨RRow.of_wcells h.out h.glo h.ghi,fun r hr=>by
  rcases h.rows r hr with e | ⟨b,e,h1,h2,_,h3⟩
  ·rw [e];intro hp;simp at hp
  ·rw [e];exact RRow.of_wcells h3 h1 h2⟩
theorem GW.turned {R:Type} {K:NK R} {w w':World} {g:Nat} {rs:List R} {lo hi lo' hi':Nat} (h:GW K w g rs lo hi) (t:Turned w w' lo' hi') (hd:hi<=lo'\/hi'<=lo):GW K w' g rs lo hi:=
 ⟨h.out.turned t (by have:=h.glo;have:=h.ghi;omega),h.glo,h.ghi,fun r hr=>by
  rcases h.rows r hr with e | ⟨b,e,h1,h2,h3,h4⟩
  ·exact .inl e
  ·exact .inr ⟨b,e,h1,h2,h3,h4.turned t (by omega)⟩,h.apart⟩
theorem GW.below {R:Type} {K:NK R} {w w':World} {g:Nat} {rs:List R} {lo hi:Nat} (h:GW K w g rs lo hi) (hb:Below w.heap.size w w'):GW K w' g rs lo hi:=
 ⟨h.out.below hb h.out.1,h.glo,h.ghi,fun r hr=>by
  rcases h.rows r hr with e | ⟨b,e,h1,h2,h3,h4⟩
  ·exact .inl e
  ·exact .inr ⟨b,e,h1,h2,h3,h4.below hb h4.1⟩,h.apart⟩
theorem GW.wide {R:Type} {K:NK R} {w:World} {g:Nat} {rs:List R} {lo hi lo' hi':Nat} (h:GW K w g rs lo hi) (h1:lo'<=lo) (h2:hi<=hi'):GW K w g rs lo' hi':=
 ⟨h.out,Nat.le_trans h1 h.glo,Nat.lt_of_lt_of_le h.ghi h2,fun r hr=>by
  rcases h.rows r hr with e | ⟨b,e,q1,q2,q3,q4⟩
  ·exact .inl e
  ·exact .inr ⟨b,e,by omega,by omega,q3,q4⟩,h.apart⟩
theorem WCells.setW_other {w:World} {g b:Nat} {L:List Value} (h:WCells w b L) (hne:b ≠ g) (off:Nat) (vs:List Value):WCells (Go.Proofs.YtackbhpgdohimaaGreatDoor.setW w g off vs) b L:=by
 induction vs generalizing w off with
 | nil=>exact h
 | cons v vs ih=>exact ih (h.other ⟨g,off,none⟩ v hne) _
theorem GW.put {R:Type} {K:NK R} {w:World} {g:Nat} {rs:List R} {lo hi:Nat} (h:GW K w g rs lo hi) (j:Nat) (hj:j<rs.length) (r:R) (hr:K.inn r=[]\/∃ b,K.loc r=some ⟨b,0,none⟩/\lo<=b/\b<hi/\b ≠ g/\WCells w b (K.inn r))
  (hap:∀ s ∈ rs,K.inn s ≠ []->K.inn r ≠ []->K.loc s ≠ K.loc r):GW K (Go.Proofs.YtackbhpgdohimaaGreatDoor.setW w g (j*K.sz) (K.enc r)) g (rs.set j r) lo hi:=by
 refine ⟨h.out.setElem K.len j hj r,h.glo,h.ghi,fun s hs=>?_,?_⟩
 ·rcases List.mem_or_eq_of_mem_set hs with q | q
  ·rcases h.rows s q with e | ⟨b,e,q1,q2,q3,q4⟩
   ·exact .inl e
   ·exact .inr ⟨b,e,q1,q2,q3,q4.setW_other q3 _ _⟩
  ·subst q
   rcases hr with e | ⟨b,e,q1,q2,q3,q4⟩
   ·exact .inl e
   ·exact .inr ⟨b,e,q1,q2,q3,q4.setW_other q3 _ _⟩
 ·have ha:=List.pairwise_iff_getElem.1 h.apart
  refine List.pairwise_iff_getElem.2 (fun a b ha' hb' hab h1 h2=>?_);rw [List.length_set] at ha' hb';rw [List.getElem_set] at h1 ⊢;rw [List.getElem_set] at h2 ⊢
  by_cases ea:j=a
  ·by_cases eb:j=b
   ·omega
   ·rw [if_pos ea] at h1 ⊢
    rw [if_neg eb] at h2 ⊢;exact (hap _ (List.getElem_mem hb') h2 h1).symm
  ·rw [if_neg ea] at h1 ⊢
   by_cases eb:j=b
   ·rw [if_pos eb] at h2 ⊢
    exact hap _ (List.getElem_mem ha') h1 h2
   ·rw [if_neg eb] at h2 ⊢
    exact ha a b ha' hb' hab h1 h2
theorem qad {P:Program} {f:Func} {R:Ending->World->Prop} {x:Exit} {a:Act} {W:World} (p:World->Prop) (h:p W) (k:∀ W',p W'->bodyPost P f R x a W'):bodyPost P f R x a W:=k W h
theorem qaa {P:Program} {c:Code} {Q:Exit->Act->World->Prop} {a:Act} {W:World} (p:World->Prop) (h:p W) (k:∀ W',p W'->Code.wp P c Q a W'):Code.wp P c Q a W:=k W h
structure PM where
 group:Int
 len:Int
instance:Inhabited PM:=⟨⟨0,0⟩⟩
abbrev pv (p:PM):Value:=.agg #[.int .i64 p.group,.int .i64 p.len]
def qei (p:PM):List Value:=[.int .i64 p.group,.int .i64 p.len]
theorem qbn (p:PM):(qei p).length=2:=rfl
def pcs (ps:List PM):List Value:=ps.flatMap qei
theorem qiv (ps:List PM):(pcs ps).length=ps.length*2:=qch qbn ps
theorem pcs_nil {ps:List PM}:pcs ps=[]↔ps=[]:=by
 cases ps with
 | nil=>simp [pcs]
 | cons p ps=>simp [pcs,qei]
structure NM where
 id:Int
 parent:Int
 name:ByteArray
 dir:Bool
 schema:Int
 quota:Int
 len:Int
 pieces:List PM
 writer:Int
instance:Inhabited NM:=⟨⟨0,0,⟨#[]⟩,false,0,0,0,[],0⟩⟩
structure NR where
 nd:NM
 loc:Option Addr
 cap:Nat
instance:Inhabited NR:=⟨⟨default,none,0⟩⟩
abbrev nv (r:NR):Value:=.agg #[.int .i64 r.nd.id,.int .i64 r.nd.parent,.string r.nd.name,.bool r.nd.dir,.int .i64 r.nd.schema,.int .i64 r.nd.quota,.int .i64 r.nd.len,.slice r.loc r.nd.pieces.length r.cap,.int .i64 r.nd.writer]
def qaj (r:NR):List Value:=[.int .i64 r.nd.id,.int .i64 r.nd.parent,.string r.nd.name,.bool r.nd.dir,.int .i64 r.nd.schema,.int .i64 r.nd.quota,.int .i64 r.nd.len,.slice r.loc r.nd.pieces.length r.cap,.int .i64 r.nd.writer]
theorem qai (r:NR):(qaj r).length=9:=rfl
abbrev NKind:NK NR:=⟨qaj,9,qai,NR.loc,fun r=>pcs r.nd.pieces⟩
def ncs (rs:List NR):List Value:=rs.flatMap qaj
theorem qes (rs:List NR):(ncs rs).length=rs.length*9:=qch qai rs
def nds (rs:List NR):List NM:=rs.map NR.nd
theorem qaf (rs:List NR):(nds rs).length=rs.length:=by simp [nds]
theorem qci (rs:List NR) (r:NR):nds (rs++[r])=nds rs++[r.nd]:=by simp [nds]
structure TM where
 nodes:List NM
 next:Int
def NAt (w:World) (b o:Nat) (r:NR):Prop:=
 w.cell? ⟨b,o,none⟩=some (.int .i64 r.nd.id)/\w.cell? ⟨b,o+1,none⟩=some (.int .i64 r.nd.parent)/\w.cell? ⟨b,o+2,none⟩=some (.string r.nd.name)/\w.cell? ⟨b,o+3,none⟩=some (.bool r.nd.dir)/\w.cell? ⟨b,o+4,none⟩=some (.int .i64 r.nd.schema)/\w.cell? ⟨b,o+5,none⟩=some (.int .i64 r.nd.quota)/\w.cell? ⟨b,o+6,none⟩=some (.int .i64 r.nd.len)/\w.cell? ⟨b,o+7,none⟩=some (.slice r.loc r.nd.pieces.length r.cap)/\w.cell? ⟨b,o+8,none⟩=some (.int .i64 r.nd.writer)
abbrev TR (w:World) (a:Option Addr) (rs:List NR) (lo hi:Nat):Prop:=GR NKind w a rs lo hi
abbrev TW (w:World) (g:Nat) (rs:List NR) (lo hi:Nat):Prop:=GW NKind w g rs lo hi
theorem TR.nat {w:World} {a:Option Addr} {rs:List NR} {lo hi:Nat} (h:TR w a rs lo hi) (hp:0<rs.length):∃ b off,a=some ⟨b,off,none⟩/\b<w.heap.size/\∀ j (hj:j<rs.length),NAt w b (off+j*9) rs[j]:=by
 obtain ⟨b,off,e,hb,hc⟩:=h.at hp (by decide);refine ⟨b,off,e,hb,fun j hj=>?_⟩
 have hcc:∀ i v,(qaj rs[j])[i]?=some v->w.cell? ⟨b,off+j*9+i,none⟩=some v:=fun i v hv=>by
  have:=hc j hj i v hv;rw [<-Nat.add_assoc] at this;exact this
 exact ⟨hcc 0 _ rfl,hcc 1 _ rfl,hcc 2 _ rfl,hcc 3 _ rfl,hcc 4 _ rfl,hcc 5 _ rfl,hcc 6 _ rfl,hcc 7 _ rfl,hcc 8 _ rfl⟩
theorem NAt.below {w w':World} {b o:Nat} {r:NR} (h:NAt w b o r) (hb:Below w.heap.size w w') (hl:b<w.heap.size):NAt w' b o r:=by
 obtain ⟨h0,h1,h2,h3,h4,h5,h6,h7,h8⟩:=h;have k:∀ i v,w.cell? ⟨b,i,none⟩=some v->w'.cell? ⟨b,i,none⟩=some v:=fun i v hv=>(hb.cell (p:=⟨b,i,none⟩) hl).trans hv;exact ⟨k _ _ h0,k _ _ h1,k _ _ h2,k _ _ h3,k _ _ h4,k _ _ h5,k _ _ h6,k _ _ h7,k _ _ h8⟩
theorem qmh {w:World} {a:Option Addr} {ps:List PM} {lo hi:Nat} (h:RRow w a (pcs ps) lo hi) (hp:0<ps.length):∃ b off,a=some ⟨b,off,none⟩/\b<w.heap.size/\∀ j (hj:j<ps.length),w.cell? ⟨b,off+j*2,none⟩=some (.int .i64 ps[j].group)/\w.cell? ⟨b,off+j*2+1,none⟩=some (.int .i64 ps[j].len):=by
 obtain ⟨b,off,e,_,_,hb,hc⟩:=h (by rw [qiv];omega);exact ⟨b,off,e,hb,fun j hj=>⟨hc (j*2) _ (flat_get qbn ps j hj 0 (by omega)),hc (j*2+1) _ (flat_get qbn ps j hj 1 (by omega))⟩⟩
def TSee (w:World) (v:Value) (T:TM) (lo hi:Nat):Prop:=∃ (a:Option Addr) (cap:Nat) (rs:List NR),v = .agg #[.slice a rs.length cap,.int .i64 T.next]/\nds rs=T.nodes/\TR w a rs lo hi
def TAns (w:World) (v:Value) (T:TM) (lo hi:Nat):Prop:=∃ (a:Option Addr) (cap:Nat) (rs:List NR),v = .agg #[.slice a rs.length cap,.int .i64 T.next]/\nds rs=T.nodes/\rs.length<=cap/\(rs=[]\/∃ g,a=some ⟨g,0,none⟩/\TW w g rs lo hi)
theorem TAns.see {w:World} {v:Value} {T:TM} {lo hi:Nat} (h:TAns w v T lo hi):TSee w v T lo hi:=by
 obtain ⟨a,cap,rs,e,hr,_,h1⟩:=h;refine ⟨a,cap,rs,e,hr,?_⟩;rcases h1 with rfl | ⟨g,rfl,hm⟩
 ·exact GR.nil _ _ _ _ _
 ·exact hm.gr
theorem TSee.below {w w':World} {v:Value} {T:TM} {lo hi:Nat} (h:TSee w v T lo hi) (hb:Below w.heap.size w w'):TSee w' v T lo hi:=by
 obtain ⟨a,cap,rs,e,hr,h1⟩:=h;exact ⟨a,cap,rs,e,hr,h1.below hb⟩
theorem TAns.turned {w w':World} {v:Value} {T:TM} {lo hi lo' hi':Nat} (h:TAns w v T lo hi) (t:Turned w w' lo' hi') (hd:hi<=lo'\/hi'<=lo):TAns w' v T lo hi:=by
 obtain ⟨a,cap,rs,e,hr,hc,h1⟩:=h;refine ⟨a,cap,rs,e,hr,hc,?_⟩;rcases h1 with rfl | ⟨g,rfl,hm⟩
 ·exact .inl rfl
 ·exact .inr ⟨g,rfl,hm.turned t hd⟩
theorem TAns.below {w w':World} {v:Value} {T:TM} {lo hi:Nat} (h:TAns w v T lo hi) (hb:Below w.heap.size w w'):TAns w' v T lo hi:=by
 obtain ⟨a,cap,rs,e,hr,hc,h1⟩:=h;refine ⟨a,cap,rs,e,hr,hc,?_⟩;rcases h1 with rfl | ⟨g,rfl,hm⟩
 ·exact .inl rfl
 ·exact .inr ⟨g,rfl,hm.below hb⟩
def qla (T:TM) (w:World) (e:Ending) (w':World):Prop:=∃ v,e = .returned v/\TAns w' v T w.heap.size w'.heap.size/\Below w.heap.size w w'
def nsum:List NM->Nat
 | []=>0
 | n::ns=>n.name.size+n.pieces.length+nsum ns
theorem nsum_take (ns:List NM) (k:Nat) (h:k<ns.length):nsum (ns.take (k+1))=nsum (ns.take k)+(ns[k].name.size+ns[k].pieces.length):=by
 induction ns generalizing k with
 | nil=>simp at h
 | cons n ns ih =>
  cases k with
  | zero=>simp [nsum]
  | succ k =>
   have:=ih k (by simpa using h);simp only [List.take_succ_cons,nsum,List.getElem_cons_succ];omega
theorem qep {ns:List NM} {n:NM} (h:n ∈ ns):n.name.size+n.pieces.length<=nsum ns:=by
 induction ns with
 | nil=>simp at h
 | cons x ns ih =>
  rcases List.mem_cons.1 h with rfl | h
  ·simp only [nsum];omega
  ·have:=ih h;simp only [nsum];omega
def NFit (T:TM):Prop:=T.nodes.length+nsum T.nodes<=1048576
theorem toPiece_any (p:PM) (w:World):Calls Tryz.prog 173 #[pv p] w fun e w'=>e = .returned (pv p)/\Below w.heap.size w w':=by
 go_enter Tryz.func173,Tryz.ntmps173;go_wp2_with fail;refine bodyPost_ret (v:=pv p) (by simp [results,Tryz.results173,go_sem]) rfl ⟨rfl,?_⟩;exact ((zB.alloc zL _).alloc (by simp) _).alloc (by simp;omega) _
theorem infoPiece:(Tryz.prog.info? 143).map (fun i=>(i.zero,i.size,i.bytes))=some (some (.agg #[.int .i64 0,.int .i64 0]),2,16):=by kernel_rfl
def qqy (ps:List PM) (w:World) (e:Ending) (w':World):Prop:=∃ g,e = .returned (.slice (some ⟨g,0,none⟩) ps.length ps.length)/\w.heap.size<=g/\WCells w' g (pcs ps)/\Below w.heap.size w w'
theorem toPieceS_any (a:Option Addr) (ps:List PM) (cap:Nat) (w:World) (lo hi:Nat) (hr:RRow w a (pcs ps) lo hi) (hl:ps.length<=1048576) :
  Calls Tryz.prog 145 #[.slice a ps.length cap] w fun e w'=>qqy ps w e w':=by
 obtain ⟨i0,hi,hz0,hz1,hz2⟩:=info_parts infoPiece;have HR:=zS hr;clear hr;go_enter Tryz.func145,Tryz.ntmps145;go_wp2_with (at_make;refine wpList_make_full _ rfl _ _ 88 rfl w.heap.size 143 i0 _ 2 Tryz.underlying88 hi hz0 hz1 .i64 .i64 _ _ ps.length rfl rfl (by omega) (by omega) ?b2 ?b3 ?b4 ?_)
 case b2=>rw [hz2];omega
 case b3=>unfold maxLen;omega
 case b4=>omega
 intro wm hownm hgrm;have hbm:Below w.heap.size w wm:=zB.grown hgrm zL (fun j hj=>by simp at hj)
 have hrow:WCells wm w.heap.size (pcs (List.replicate ps.length default)):=by
  have h:=qan hownm;have e:(madeCells #[.int .i64 0,.int .i64 0] (ps.length*2)).toList=pcs (List.replicate ps.length default):=qhx qbn (by decide) #[.int .i64 0,.int .i64 0] default rfl _;rw [e] at h;exact h
 have HRW:=zS hrow;have HBM:=zS hbm;clear hownm hgrm hrow hbm;go_wp2_with fail;go_loopw [4] (fun i wr=>∃ (k:Nat) (gs:List PM),i = .int .i64 k/\k<=ps.length/\Sh (gs.length=ps.length/\gs.take k=ps.take k)/\Sh (WCells wr w.heap.size (pcs gs))/\Sh (Below w.heap.size w wr)) (fun i _=>ps.length - (intOf i).toNat)
 case atStart=>exact ⟨0,_,rfl,by omega,⟨by simp,by simp⟩,HRW,HBM⟩
 case round =>
  clear HRW HBM;obtain ⟨k,gs,rfl,hk,HG,hw,hb⟩:=hrel
  by_cases hlt:k<ps.length
  ·obtain ⟨b,off,rfl,hbl,hc⟩:=qmh (HR.1.below hb.1) (by omega)
   obtain ⟨d0,d1⟩:=hc k hlt;have HFE:=zS (rfl (a:=ps[k]));obtain ⟨f,hfe⟩:∃ f,f=ps[k]:=⟨_,rfl⟩;rw [<-hfe] at d0 d1;replace HFE:=zS hfe;have k0:(0:Int)<=(k:Int):=by omega
   have k1:(k:Int)<(ps.length:Int):=by omega
   clear hc hfe;go_wp2_with fail;refine (toPiece_any f _).mono ?_;rintro e w2 ⟨rfl,hb2⟩;have HW2:=zS (hw.1.below hb2 hw.1.1);have HB3:=zS (hb.1.trans (hb2.mono hb.1.size));clear hw hb hb2 d0 d1;have hgk:k<gs.length:=by have:=HG.1.1;omega
   obtain ⟨c0,z0⟩:=HW2.1.2 (k*2) _ (flat_get qbn gs k hgk 0 (by omega));obtain ⟨c1,z1⟩:=HW2.1.2 (k*2+1) _ (flat_get qbn gs k hgk 1 (by omega));have HS:=zS (HW2.1.setElem qbn k hgk f);have HBN:=zS (qdx HB3.1 zL (k*2) (qei f));go_wp2_with fail;go_roundw
   case rel =>
    refine ⟨k+1,gs.set k f,by go_num,by omega,⟨by rw [List.length_set];exact HG.1.1,?_⟩,⟨HS.1⟩,⟨HBN.1⟩⟩;rw [List.take_succ_eq_append_getElem (by rw [List.length_set];exact hgk),List.take_succ_eq_append_getElem hlt,List.take_set_of_le zL,HG.1.2,List.getElem_set_self,HFE.1]
   case measure=>simp [intOf];omega
  ·have e:gs=ps:=by
    have h:=HG.1.2;rw [List.take_of_length_le (by have:=HG.1.1;omega),List.take_of_length_le (by omega)] at h;exact h
   subst e;go_wp2_with fail;go_ret;exact ⟨_,rfl,zL,hw.1,hb.1⟩
def qsv (r:NR) (w:World) (e:Ending) (w':World):Prop:=∃ g,e = .returned (nv ⟨r.nd,some ⟨g,0,none⟩,r.nd.pieces.length⟩)/\w.heap.size<=g/\WCells w' g (pcs r.nd.pieces)/\Below w.heap.size w w'
structure Tri (w W:World) (L1 L2 L3:List Value):Prop where
 bel:Below w.heap.size w W
 b1:WCells W w.heap.size L1
 b2:WCells W (w.heap.size+1) L2
 b3:WCells W (w.heap.size+1+1) L3
theorem Tri.new (w:World) (A B C:Array Value) (tA tB tC:TypeId):Tri w (((w.alloc (.cells A tA)).alloc (.cells B tB)).alloc (.cells C tC)) A.toList B.toList C.toList:=by
 have e1:(w.alloc (.cells A tA)).heap.size=w.heap.size+1:=by simp
 have e2:((w.alloc (.cells A tA)).alloc (.cells B tB)).heap.size=w.heap.size+1+1:=by simp
 refine ⟨((zB.alloc zL _).alloc (by simp) _).alloc (by simp;omega) _,((qac w A tA).alloc _).alloc _,?_,?_⟩
 ·have:=(qac (w.alloc (.cells A tA)) B tB).alloc (.cells C tC)
  rw [e1] at this;exact this
 ·have:=qac ((w.alloc (.cells A tA)).alloc (.cells B tB)) C tC
  rw [e2] at this;exact this
theorem Tri.set {w W:World} {L1 L2 L3:List Value} (h:Tri w W L1 L2 L3) (i:Nat) (v:Value) (hi:i<L3.length):Tri w (W.setCell ⟨w.heap.size+1+1,i,none⟩ v) L1 L2 (L3.set i v):=
 ⟨h.bel.setCell (p:=⟨w.heap.size+1+1,i,none⟩) (by show w.heap.size<=w.heap.size+1+1;omega) v,h.b1.other _ _ (by show w.heap.size ≠ w.heap.size+1+1;omega),h.b2.other _ _ (by show w.heap.size+1 ≠ w.heap.size+1+1;omega),h.b3.set i v hi⟩
theorem Tri.below {w W W':World} {L1 L2 L3:List Value} (h:Tri w W L1 L2 L3) (hb:Below W.heap.size W W'):Tri w W' L1 L2 L3:=⟨h.bel.trans (hb.mono h.bel.size),h.b1.grow hb,h.b2.grow hb,h.b3.grow hb⟩
theorem toInode_any (r:NR) (w:World) (lo hi:Nat) (hr:RRow w r.loc (pcs r.nd.pieces) lo hi) (hl:r.nd.pieces.length<=1048576):Calls Tryz.prog 100 #[nv r] w fun e w'=>qsv r w e w':=by
 obtain ⟨⟨id,parent,name,dir,schema,quota,len,pieces,writer⟩,loc,cap⟩:=r;unfold qsv;dsimp only [nv] at *;have HP:=zS (fun W (hW:Below w.heap.size w W)=>toPieceS_any loc pieces cap W lo hi (hr.below hW) hl);unfold qqy at HP;generalize pieces.length=np at *;clear hr hl;go_enter Tryz.func100,Tryz.ntmps100;go_upto_region 9 with fail;refine qaa (fun W=>Tri w W [.int .i64 id,.int .i64 parent,.string name,.bool dir,.int .i64 schema,.int .i64 quota,.int .i64 len,.slice loc np cap,.int .i64 writer] [.int .i64 0,.int .i64 0,.string ⟨#[]⟩,.bool false,.int .i64 0,.int .i64 0,.int .i64 0,.slice none 0 0,.int .i64 0] [.int .i64 id,.int .i64 parent,.string name,.bool dir,.int .i64 schema,.int .i64 quota,.int .i64 len,.slice none 0 0,.int .i64 0]) ?_ ?_
 ·exact Tri.new w #[.int .i64 id,.int .i64 parent,.string name,.bool dir,.int .i64 schema,.int .i64 quota,.int .i64 len,.slice loc np cap,.int .i64 writer] #[.int .i64 0,.int .i64 0,.string ⟨#[]⟩,.bool false,.int .i64 0,.int .i64 0,.int .i64 0,.slice none 0 0,.int .i64 0] #[.int .i64 id,.int .i64 parent,.string name,.bool dir,.int .i64 schema,.int .i64 quota,.int .i64 len,.slice none 0 0,.int .i64 0] 128 90 90
 ·intro W4 ht
  have HT:=zS ht;have a7:=(ht.b1.2 7 _ rfl).1;clear ht;go_wp2_with fail;refine (HP.1 _ HT.1.bel).mono ?_;rintro e w5 ⟨g,rfl,hg,hw,hb⟩;have ht5:=HT.1.below hb;have hg5:g ≠ w.heap.size+1+1/\g ≠ w.heap.size+1:=⟨by have:=HT.1.b3.1;omega,by have:=HT.1.b3.1;omega⟩;have HGL:=zS (show w.heap.size<=g from Nat.le_trans HT.1.bel.size hg);have HT5:=zS (And.intro ht5 hw);obtain ⟨c7,z7⟩:=ht5.b3.2 7 _ rfl;clear hw hb ht5 HT hg a7 HP;go_upto_region 10 with fail;refine qaa (fun W=>Tri w W [.int .i64 id,.int .i64 parent,.string name,.bool dir,.int .i64 schema,.int .i64 quota,.int .i64 len,.slice loc np cap,.int .i64 writer] [.int .i64 0,.int .i64 0,.string ⟨#[]⟩,.bool false,.int .i64 0,.int .i64 0,.int .i64 0,.slice none 0 0,.int .i64 0] [.int .i64 id,.int .i64 parent,.string name,.bool dir,.int .i64 schema,.int .i64 quota,.int .i64 len,.slice (some ⟨g,0,none⟩) np np,.int .i64 0]/\WCells W g (pcs pieces)) ⟨HT5.1.1.set 7 _ (by simp),HT5.1.2.other _ _ hg5.1⟩ ?_;clear HT5 c7 z7;rintro W6 ⟨ht,hw⟩;have HT:=zS (And.intro ht hw);have a8:=(ht.b1.2 8 _ rfl).1;obtain ⟨c8,z8⟩:=ht.b3.2 8 _ rfl;clear ht hw;go_upto_region 11 with fail;refine qaa (fun W=>Tri w W [.int .i64 id,.int .i64 parent,.string name,.bool dir,.int .i64 schema,.int .i64 quota,.int .i64 len,.slice loc np cap,.int .i64 writer] [.int .i64 0,.int .i64 0,.string ⟨#[]⟩,.bool false,.int .i64 0,.int .i64 0,.int .i64 0,.slice none 0 0,.int .i64 0] [.int .i64 id,.int .i64 parent,.string name,.bool dir,.int .i64 schema,.int .i64 quota,.int .i64 len,.slice (some ⟨g,0,none⟩) np np,.int .i64 writer]/\WCells W g (pcs pieces)) ⟨HT.1.1.set 8 _ (by simp),HT.1.2.other _ _ hg5.1⟩ ?_;clear HT a8 c8 z8;rintro W7 ⟨ht,hw⟩;have HT:=zS (And.intro ht hw);obtain ⟨c0,z0,c1,z1,c2,z2,c3,z3,c4,z4,c5,z5,c6,z6,c7,z7,c8,z8⟩:=bwc9 ht.b3
  obtain ⟨x0,y0,x1,y1,x2,y2,x3,y3,x4,y4,x5,y5,x6,y6,x7,y7,x8,y8⟩:=bwc9 ht.b2;clear ht hw;go_wp2_with fail;refine qad (fun W=>WCells W (w.heap.size+1) [.int .i64 id,.int .i64 parent,.string name,.bool dir,.int .i64 schema,.int .i64 quota,.int .i64 len,.slice (some ⟨g,0,none⟩) np np,.int .i64 writer]/\WCells W g (pcs pieces)/\Below w.heap.size w W) ⟨HT.1.1.b2.setW 0 [.int .i64 id,.int .i64 parent,.string name,.bool dir,.int .i64 schema,.int .i64 quota,.int .i64 len,.slice (some ⟨g,0,none⟩) np np,.int .i64 writer] (by simp),HT.1.2.setW_other hg5.2 0 [.int .i64 id,.int .i64 parent,.string name,.bool dir,.int .i64 schema,.int .i64 quota,.int .i64 len,.slice (some ⟨g,0,none⟩) np np,.int .i64 writer],qdx HT.1.1.bel (by omega) 0 [.int .i64 id,.int .i64 parent,.string name,.bool dir,.int .i64 schema,.int .i64 quota,.int .i64 len,.slice (some ⟨g,0,none⟩) np np,.int .i64 writer]⟩ ?_;clear HT c0 c1 c2 c3 c4 c5 c6 c7 c8 z0 z1 z2 z3 z4 z5 z6 z7 z8 x0 x1 x2 x3 x4 x5 x6 x7 x8 y0 y1 y2 y3 y4 y5 y6 y7 y8;rintro W8 ⟨h2,hw,hb⟩;obtain ⟨x0,x1,x2,x3,x4,x5,x6,x7,x8⟩:=bwb9 h2;exact bodyPost_ret (v:=.agg #[.int .i64 id,.int .i64 parent,.string name,.bool dir,.int .i64 schema,.int .i64 quota,.int .i64 len,.slice (some ⟨g,0,none⟩) np np,.int .i64 writer]) (by simp [results,Tryz.results100,go_sem,x0,x1,x2,x3,x4,x5,x6,x7,x8]) rfl ⟨g,rfl,HGL.1,hw,hb⟩
theorem qjn:(Tryz.prog.info? 90).map (fun i=>(i.zero,i.size,i.bytes))=some (some (.agg #[.int .i64 0,.int .i64 0,.string ⟨#[]⟩,.bool false,.int .i64 0,.int .i64 0,.int .i64 0,.slice none 0 0,.int .i64 0]),9,96):=by kernel_rfl
theorem qqz {ps:List PM} (h:ps ≠ []):pcs ps ≠ []:=fun e=>h (pcs_nil.1 e)
theorem TW.copy {wr w2:World} {g g':Nat} {gs:List NR} {B:Nat} (h:TW wr g gs B wr.heap.size) (hb:Below wr.heap.size wr w2) (j:Nat) (hj:j<gs.length) (nd:NM) (hg:wr.heap.size<=g') (hw:WCells w2 g' (pcs nd.pieces)) (hB:B<=wr.heap.size) :
  TW (setW w2 g (j*9) (qaj ⟨nd,some ⟨g',0,none⟩,nd.pieces.length⟩)) g (gs.set j ⟨nd,some ⟨g',0,none⟩,nd.pieces.length⟩) B w2.heap.size:=by
 refine GW.put (K:=NKind) ((h.below hb).wide zL hb.size) j hj ⟨nd,some ⟨g',0,none⟩,nd.pieces.length⟩ ?_ ?_
 ·exact .inr ⟨g',rfl,by omega,hw.1,by have:=h.1.1;omega,hw⟩
 ·intro s hs h1 _ e
  rcases h.rows s hs with q | ⟨b,e2,_,q2,_,_⟩
  ·exact h1 q
  ·have:b=g':=congrArg Addr.block (Option.some.inj (e2.symm.trans e))
   omega
theorem setW_size (w:World) (g off:Nat) (vs:List Value):(setW w g off vs).heap.size=w.heap.size:=by
 induction vs generalizing w off with
 | nil=>rfl
 | cons v vs ih=>show (setW _ g (off+1) vs).heap.size=_;rw [ih];simp [World.setCell]
theorem setW9 (w:World) (g o:Nat) (v0 v1 v2 v3 v4 v5 v6 v7 v8:Value):setW w g o [v0,v1,v2,v3,v4,v5,v6,v7,v8]=((((((((w.setCell ⟨g,o,none⟩ v0).setCell ⟨g,o+1,none⟩ v1).setCell ⟨g,o+2,none⟩ v2).setCell ⟨g,o+3,none⟩ v3).setCell ⟨g,o+4,none⟩ v4).setCell ⟨g,o+5,none⟩ v5).setCell ⟨g,o+6,none⟩ v6).setCell ⟨g,o+7,none⟩ v7).setCell ⟨g,o+8,none⟩ v8:=rfl
def qsg (rs:List NR) (w:World) (e:Ending) (w':World):Prop:=∃ g ts,e = .returned (.slice (some ⟨g,0,none⟩) ts.length ts.length)/\nds ts=nds rs/\TW w' g ts w.heap.size w'.heap.size/\Below w.heap.size w w'
theorem toInodeS_any (a:Option Addr) (rs:List NR) (cap:Nat) (w:World) (lo hi:Nat) (hm:TR w a rs lo hi) (hl:rs.length<=1048576) (hp:∀ r ∈ rs,r.nd.pieces.length<=1048576) :
  Calls Tryz.prog 55 #[.slice a rs.length cap] w fun e w'=>qsg rs w e w':=by
 obtain ⟨i0,hi,hz0,hz1,hz2⟩:=info_parts qjn;have HR:=zS (And.intro hm hp);obtain ⟨n,hn⟩:∃ n,n=rs.length:=⟨_,rfl⟩;have HN:=zS hn;rw [<-hn] at hl ⊢;clear hm hp hn;go_enter Tryz.func55,Tryz.ntmps55;go_wp2_with (at_make;refine wpList_make_full _ rfl _ _ 35 rfl w.heap.size 90 i0 _ 9 Tryz.underlying35 hi hz0 hz1 .i64 .i64 _ _ n rfl rfl (by omega) (by omega) ?b2 ?b3 ?b4 ?_)
 case b2=>rw [hz2];omega
 case b3=>unfold maxLen;omega
 case b4=>omega
 intro wm hownm hgrm;have hbm:Below w.heap.size w wm:=zB.grown hgrm zL (fun j hj=>by simp at hj)
 have hrow:WCells wm w.heap.size (ncs (List.replicate n default)):=by
  have h:=qan hownm;have e:(madeCells #[.int .i64 0,.int .i64 0,.string ⟨#[]⟩,.bool false,.int .i64 0,.int .i64 0,.int .i64 0,.slice none 0 0,.int .i64 0] (n*9)).toList=ncs (List.replicate n default):=qhx qai (by decide) #[.int .i64 0,.int .i64 0,.string ⟨#[]⟩,.bool false,.int .i64 0,.int .i64 0,.int .i64 0,.slice none 0 0,.int .i64 0] default rfl _;rw [e] at h;exact h
 have HTW:Sh (TW wm w.heap.size (List.replicate n default) w.heap.size wm.heap.size):=⟨⟨hrow,zL,hrow.1,fun r hr=>.inl (by rw [List.eq_of_mem_replicate hr];rfl),List.pairwise_iff_getElem.2 (fun i j hi hj _ h1=>absurd (by simp only [List.getElem_replicate];rfl) h1)⟩⟩;have HBM:=zS hbm;clear hownm hgrm hrow hbm;go_wp2_with fail;go_loopw [4] (fun i wr=>∃ (k:Nat) (gs:List NR),i = .int .i64 k/\k<=n/\Sh (gs.length=n/\nds (gs.take k)=nds (rs.take k))/\Sh (TW wr w.heap.size gs w.heap.size wr.heap.size)/\Sh (Below w.heap.size w wr)) (fun i _=>n - (intOf i).toNat)
 case atStart=>exact ⟨0,_,rfl,by omega,⟨by simp,by simp⟩,HTW,HBM⟩
 case round =>
  clear HTW HBM;obtain ⟨k,gs,rfl,hk,HG,hw,hb⟩:=hrel
  by_cases hlt:k<n
  ·have hlr:k<rs.length:=by have:=HN.1;omega
   obtain ⟨b,off,rfl,hbl,hc⟩:=TR.nat (HR.1.1.below hb.1) (by omega);obtain ⟨d0,d1,d2,d3,d4,d5,d6,d7,d8⟩:=hc k hlr;have HPR:=zS (((HR.1.1.below hb.1).2 rs[k] (List.getElem_mem hlr)));have HPL:=zS (HR.1.2 rs[k] (List.getElem_mem hlr));obtain ⟨r,hre⟩:∃ r,r=rs[k]:=⟨_,rfl⟩;rw [<-hre] at d0 d1 d2 d3 d4 d5 d6 d7 d8 HPR HPL;have HRE:=zS hre;have k0:(0:Int)<=(k:Int):=by omega
   have k1:(k:Int)<(n:Int):=by omega
   clear hc hre;go_wp2_with fail;refine (toInode_any r _ _ _ HPR.1 HPL.1).mono ?_;rintro e w2 ⟨g',rfl,hg',hw',hb2⟩;have hgk:k<gs.length:=by have:=HG.1.1;omega
   have HC:=zS ((hw.1.copy hb2 k hgk r.nd hg' hw' hb.1.size).wide zL (Nat.le_of_eq (setW_size w2 w.heap.size (k*9) (qaj ⟨r.nd,some ⟨g',0,none⟩,r.nd.pieces.length⟩)).symm));have HWO:=zS (hw.1.out.below hb2 hw.1.out.1);have HB3:=zS (qdx (hb.1.trans (hb2.mono hb.1.size)) zL (k*9) (qaj ⟨r.nd,some ⟨g',0,none⟩,r.nd.pieces.length⟩));unfold qaj at HC HB3;dsimp only at HC HB3;rw [setW9] at HC HB3;clear hw hb hb2 hw' d0 d1 d2 d3 d4 d5 d6 d7 d8 HPR HPL;obtain ⟨c0,z0⟩:=HWO.1.2 (k*9) _ (flat_get qai gs k hgk 0 (by omega));obtain ⟨c1,z1⟩:=HWO.1.2 (k*9+1) _ (flat_get qai gs k hgk 1 (by omega));obtain ⟨c2,z2⟩:=HWO.1.2 (k*9+2) _ (flat_get qai gs k hgk 2 (by omega));obtain ⟨c3,z3⟩:=HWO.1.2 (k*9+3) _ (flat_get qai gs k hgk 3 (by omega));obtain ⟨c4,z4⟩:=HWO.1.2 (k*9+4) _ (flat_get qai gs k hgk 4 (by omega));obtain ⟨c5,z5⟩:=HWO.1.2 (k*9+5) _ (flat_get qai gs k hgk 5 (by omega));obtain ⟨c6,z6⟩:=HWO.1.2 (k*9+6) _ (flat_get qai gs k hgk 6 (by omega));obtain ⟨c7,z7⟩:=HWO.1.2 (k*9+7) _ (flat_get qai gs k hgk 7 (by omega));obtain ⟨c8,z8⟩:=HWO.1.2 (k*9+8) _ (flat_get qai gs k hgk 8 (by omega));clear HWO;go_wp2_with fail;go_roundw
   case rel =>
    refine ⟨k+1,gs.set k ⟨r.nd,some ⟨g',0,none⟩,r.nd.pieces.length⟩,by go_num,by omega,⟨by rw [List.length_set];exact HG.1.1,?_⟩,HC,HB3⟩;rw [List.take_succ_eq_append_getElem (by rw [List.length_set];exact hgk),List.take_succ_eq_append_getElem hlr,List.take_set_of_le zL,qci,qci,HG.1.2,List.getElem_set_self,<-HRE.1]
   case measure=>simp [intOf];omega
  ·have e:nds gs=nds rs:=by
    have h:=HG.1.2;rw [List.take_of_length_le (by have:=HG.1.1;omega),List.take_of_length_le (by have:=HN.1;omega)] at h;exact h
   have HE:=zS e;have HGL:=zS HG.1.1;clear e HG;go_wp2_with fail;go_ret;exact ⟨w.heap.size,gs,by rw [HGL.1];rfl,HE.1,hw.1,hb.1⟩
theorem toTree_val {w:World} {v:Value} {T:TM} {lo hi:Nat} (h:TSee w v T lo hi) (hf:NFit T):Calls Tryz.prog 21 #[v] w fun e w'=>qla T w e w':=by
 obtain ⟨a,cap,rs,rfl,hr,hm⟩:=h;have hrl:rs.length=T.nodes.length:=by rw [<-hr,qaf]
 have hl:rs.length<=1048576:=by unfold NFit at hf;omega
 have hp:∀ r ∈ rs,r.nd.pieces.length<=1048576:=fun r hx=>by
  have:=qep (ns:=T.nodes) (n:=r.nd) (by rw [<-hr];exact List.mem_map.2 ⟨r,hx,rfl⟩);unfold NFit at hf;omega
 have HS:=zS (fun W (hW:Below w.heap.size w W)=>toInodeS_any a rs cap W lo hi (hm.below hW) hl hp);unfold qsg at HS;obtain ⟨nds0,next⟩:=T;dsimp only at *;subst hr;generalize rs.length=n at *;clear hm hp hf hrl;go_enter Tryz.func21,Tryz.ntmps21;go_upto_region 2 with fail;refine qaa (fun W=>Tri w W [.slice a n cap,.int .i64 next] [.slice none 0 0,.int .i64 0] [.slice none 0 0,.int .i64 0]) (Tri.new w #[.slice a n cap,.int .i64 next] #[.slice none 0 0,.int .i64 0] #[.slice none 0 0,.int .i64 0] 24 37 37) ?_;intro W4 ht;have HT:=zS ht;have a0:=(ht.b1.2 0 _ rfl).1;clear ht;go_wp2_with fail;refine (HS.1 _ HT.1.bel).mono ?_;rintro e w5 ⟨g,ts,rfl,hn,hw,hb⟩;have ht5:=HT.1.below hb;have hlo:w.heap.size+3<=W4.heap.size:=by have:=HT.1.b3.1;omega
 have hw0:w.heap.size<=W4.heap.size:=by omega
 obtain ⟨m,hm⟩:∃ m,m=ts.length:=⟨_,rfl⟩;have HT5:=zS (And.intro ht5 (And.intro hw (show w5.heap.size=w5.heap.size from rfl)));have HTS:=zS (And.intro hn hm);rw [<-hm];obtain ⟨c0,z0⟩:=ht5.b3.2 0 _ rfl;clear hn hw hb ht5 HT a0 HS hm;have step:∀ {W:World} (i:Nat) (v:Value) (b:Nat),b<W4.heap.size->w.heap.size<=b->TW W g ts W4.heap.size w5.heap.size->TW (W.setCell ⟨b,i,none⟩ v) g ts W4.heap.size w5.heap.size:=fun {W} i v b h1 _ h=>h.turned (lo':=b) (hi':=b+1) (Turned.of_grown (qam W b i v) zL (Nat.lt_succ_self _)) (.inr h1);have HST:=zS @step;clear step;go_upto_region 3 with fail;refine qaa (fun W=>Tri w W [.slice a n cap,.int .i64 next] [.slice none 0 0,.int .i64 0] [.slice (some ⟨g,0,none⟩) m m,.int .i64 0]/\TW W g ts W4.heap.size w5.heap.size/\W.heap.size=w5.heap.size) ⟨HT5.1.1.set 0 _ (by simp),HST.1 0 _ (w.heap.size+1+1) (by omega) (by omega) HT5.1.2.1,by simp [World.setCell]⟩ ?_;clear HT5 c0 z0;rintro W6 ⟨ht,hw,hs⟩;have HT:=zS (And.intro ht (And.intro hw hs));have a1:=(ht.b1.2 1 _ rfl).1;obtain ⟨c1,z1⟩:=ht.b3.2 1 _ rfl;clear ht hw hs;go_upto_region 4 with fail;refine qaa (fun W=>Tri w W [.slice a n cap,.int .i64 next] [.slice none 0 0,.int .i64 0] [.slice (some ⟨g,0,none⟩) m m,.int .i64 next]/\TW W g ts W4.heap.size w5.heap.size/\W.heap.size=w5.heap.size) ⟨HT.1.1.set 1 _ (by simp),HST.1 1 _ (w.heap.size+1+1) (by omega) (by omega) HT.1.2.1,by have:=HT.1.2.2;simp [World.setCell,this]⟩ ?_;clear HT c1 z1 a1;rintro W7 ⟨ht,hw,hs⟩;have HT:=zS (And.intro ht (And.intro hw hs));obtain ⟨c0,z0,c1,z1⟩:=bwc2 ht.b3;obtain ⟨x0,y0,x1,y1⟩:=bwc2 ht.b2;clear ht hw hs;go_wp2_with fail
 refine qad (fun W=>WCells W (w.heap.size+1) [.slice (some ⟨g,0,none⟩) m m,.int .i64 next]/\TW W g ts W4.heap.size w5.heap.size/\W.heap.size=w5.heap.size/\Below w.heap.size w W) ⟨HT.1.1.b2.setW 0 [.slice (some ⟨g,0,none⟩) m m,.int .i64 next] (by simp),HST.1 1 _ (w.heap.size+1) (by omega) (by omega) (HST.1 0 _ (w.heap.size+1) (by omega) (by omega) HT.1.2.1),by have:=HT.1.2.2;simp [World.setCell,this],qdx HT.1.1.bel (by omega) 0 [.slice (some ⟨g,0,none⟩) m m,.int .i64 next]⟩ ?_;clear HT c0 z0 c1 z1 x0 y0 x1 y1;rintro W8 ⟨h2,hw,hs,hb⟩;obtain ⟨x0,x1⟩:=bwb2 h2;refine bodyPost_ret (v:=.agg #[.slice (some ⟨g,0,none⟩) m m,.int .i64 next]) (by simp [results,Tryz.results21,go_sem,x0,x1]) rfl ⟨_,rfl,⟨_,m,ts,by rw [<-HTS.1.2],HTS.1.1,Nat.le_of_eq HTS.1.2.symm,.inr ⟨g,rfl,hw.wide hw0 (Nat.le_of_eq hs.symm)⟩⟩,hb⟩
theorem eqPiece_same (p:PM) (w:World):Calls Tryz.prog 191 #[pv p,pv p] w fun e w'=>e = .returned (.bool true)/\Below w.heap.size w w':=by
 go_enter Tryz.func191,Tryz.ntmps191;go_wp2_with fail;go_ret;exact ⟨rfl,(zB.alloc zL _).alloc (by simp) _⟩
theorem eqPieceS_same (a b:Option Addr) (ps:List PM) (ca cb:Nat) (w:World) (lo hi lo' hi':Nat) (ha:RRow w a (pcs ps) lo hi) (hb:RRow w b (pcs ps) lo' hi') (hl:ps.length<=1048576) :
  Calls Tryz.prog 171 #[.slice a ps.length ca,.slice b ps.length cb] w fun e w'=>e = .returned (.bool true)/\Below w.heap.size w w':=by
 have HA:=zS ha;have HB:=zS hb;clear ha hb;go_enter Tryz.func171,Tryz.ntmps171;go_wp2_with fail;go_loopw [5] (fun i wr=>∃ (k:Nat),i = .int .i64 k/\k<=ps.length/\Sh (Below w.heap.size w wr)) (fun i _=>ps.length - (intOf i).toNat)
 case atStart=>exact ⟨0,rfl,Nat.zero_le _,⟨zB⟩⟩
 case round =>
  obtain ⟨k,rfl,hk,hbl⟩:=hrel
  by_cases hlt:k<ps.length
  ·obtain ⟨b1,o1,rfl,l1,hc1⟩:=qmh (HA.1.below hbl.1) (by omega)
   obtain ⟨b2,o2,rfl,l2,hc2⟩:=qmh (HB.1.below hbl.1) (by omega);obtain ⟨d0,d1⟩:=hc1 k hlt;obtain ⟨e0,e1⟩:=hc2 k hlt;generalize ps[k]=f at *;have k0:(0:Int)<=(k:Int):=by omega
   have k1:(k:Int)<(ps.length:Int):=by omega
   clear hc1 hc2;go_wp2_with fail
   go_region_held3 (fun w'=>w'.cell? ⟨b1,o1+k*2,none⟩=some (.int .i64 f.group)/\w'.cell? ⟨b1,o1+k*2+1,none⟩=some (.int .i64 f.len)/\w'.cell? ⟨b2,o2+k*2,none⟩=some (.int .i64 f.group)/\w'.cell? ⟨b2,o2+k*2+1,none⟩=some (.int .i64 f.len))
    (first | go_keep | (refine ⟨?_,?_,?_,?_⟩ <;> first | (rw [hb2.cell (by exact l1)];simp [*]) | (rw [hb2.cell (by exact l2)];simp [*])))
    ((go_at_call 191;refine (eqPiece_same f _).mono ?_;rintro e w2 ⟨rfl,hb2⟩))
   all_goals go_wp2_with fail
   all_goals
    have hb3:Below w.heap.size w w2:=hbl.1.trans ((Below.drew zB).trans (hb2.mono hbl.1.size));exact ⟨⟨k+1,by go_num,by omega,⟨hb3⟩⟩,by simp [intOf];omega⟩
  ·have hlt':¬ (k:Int)<(ps.length:Int):=by omega
   go_wp2_with fail;go_ret;exact ⟨rfl,hbl.1⟩
theorem qpa (x:ByteArray):(x.toList != x.toList)=false:=by simp
theorem eqInode_same (r s:NR) (w:World) (lo hi lo' hi':Nat) (hn:r.nd=s.nd) (ha:RRow w r.loc (pcs r.nd.pieces) lo hi) (hb:RRow w s.loc (pcs s.nd.pieces) lo' hi') (hl:r.nd.pieces.length<=1048576) :
  Calls Tryz.prog 134 #[nv r,nv s] w fun e w'=>e = .returned (.bool true)/\Below w.heap.size w w':=by
 obtain ⟨n,loc,cap⟩:=r;obtain ⟨n',loc',cap'⟩:=s;dsimp only at hn;subst hn;obtain ⟨id,parent,name,dir,schema,quota,len,pieces,writer⟩:=n;dsimp only [nv] at *;have HP:=zS (fun W (hW:Below w.heap.size w W)=>eqPieceS_same loc loc' pieces cap cap' W lo hi lo' hi' (ha.below hW) (hb.below hW) hl);generalize pieces.length=np at *;have HB0:=zS (show Below w.heap.size w ((w.alloc (.cells #[.int .i64 id,.int .i64 parent,.string name,.bool dir,.int .i64 schema,.int .i64 quota,.int .i64 len,.slice loc np cap,.int .i64 writer] 90)).alloc (.cells #[.int .i64 id,.int .i64 parent,.string name,.bool dir,.int .i64 schema,.int .i64 quota,.int .i64 len,.slice loc' np cap',.int .i64 writer] 90)) from (zB.alloc zL _).alloc (by simp) _);have hst:=qpa name;have hdd:(dir != dir)=false:=by cases dir <;> rfl
 have HW1:=zS (qac w #[.int .i64 id,.int .i64 parent,.string name,.bool dir,.int .i64 schema,.int .i64 quota,.int .i64 len,.slice loc np cap,.int .i64 writer] 90);have HW2:=zS (qac (w.alloc (.cells #[.int .i64 id,.int .i64 parent,.string name,.bool dir,.int .i64 schema,.int .i64 quota,.int .i64 len,.slice loc np cap,.int .i64 writer] 90)) #[.int .i64 id,.int .i64 parent,.string name,.bool dir,.int .i64 schema,.int .i64 quota,.int .i64 len,.slice loc' np cap',.int .i64 writer] 90);have hz:(w.alloc (.cells #[.int .i64 id,.int .i64 parent,.string name,.bool dir,.int .i64 schema,.int .i64 quota,.int .i64 len,.slice loc np cap,.int .i64 writer] 90)).heap.size=w.heap.size+1:=by simp
 rw [hz] at HW2;replace HW1:=zS (HW1.1.alloc (.cells #[.int .i64 id,.int .i64 parent,.string name,.bool dir,.int .i64 schema,.int .i64 quota,.int .i64 len,.slice loc' np cap',.int .i64 writer] 90));clear ha hb hl hz;go_enter Tryz.func134,Tryz.ntmps134;go_wp2_with fail;refine (HP.1 _ HB0.1).mono ?_;rintro e w2 ⟨rfl,hb2⟩;have a8:=((HW1.1.grow hb2).2 8 _ rfl).1;have c8:=((HW2.1.grow hb2).2 8 _ rfl).1;have HB2:=zS (HB0.1.trans (hb2.mono HB0.1.size));clear hb2 HW1 HW2 HB0 HP;go_wp2_with fail;go_ret;exact ⟨rfl,HB2.1⟩
theorem eqInodeS_same (a b:Option Addr) (rs ts:List NR) (ca cb:Nat) (w:World) (lo hi lo' hi':Nat) (hn:nds rs=nds ts) (ha:TR w a rs lo hi) (hb:TR w b ts lo' hi') (hl:rs.length<=1048576) (hp:∀ r ∈ rs,r.nd.pieces.length<=1048576) :
  Calls Tryz.prog 73 #[.slice a rs.length ca,.slice b ts.length cb] w fun e w'=>e = .returned (.bool true)/\Below w.heap.size w w':=by
 have hlen:ts.length=rs.length:=by rw [<-qaf,<-hn,qaf]
 have HA:=zS (And.intro ha hp);have HB:=zS (And.intro hb hn);obtain ⟨n,hnn⟩:∃ n,n=rs.length:=⟨_,rfl⟩;have HN:=zS (And.intro hnn hlen);rw [hlen,<-hnn];rw [<-hnn] at hl;have hne:((n:Int) != (n:Int))=false:=by simp
 clear ha hb hn hp hlen hnn;go_enter Tryz.func73,Tryz.ntmps73;go_wp2_with fail;go_loopw [5] (fun i wr=>∃ (k:Nat),i = .int .i64 k/\k<=n/\Sh (Below w.heap.size w wr)) (fun i _=>n - (intOf i).toNat)
 case atStart=>exact ⟨0,rfl,Nat.zero_le _,⟨zB⟩⟩
 case round =>
  obtain ⟨k,rfl,hk,hbl⟩:=hrel
  by_cases hlt:k<n
  ·have hlr:k<rs.length:=by have:=HN.1.1;omega
   have hlt2:k<ts.length:=by have:=HN.1;omega
   obtain ⟨b1,o1,rfl,l1,hc1⟩:=TR.nat (HA.1.1.below hbl.1) (by omega);obtain ⟨b2,o2,rfl,l2,hc2⟩:=TR.nat (HB.1.1.below hbl.1) (by omega);obtain ⟨d0,d1,d2,d3,d4,d5,d6,d7,d8⟩:=hc1 k hlr;obtain ⟨e0,e1,e2,e3,e4,e5,e6,e7,e8⟩:=hc2 k hlt2
   have heq:rs[k].nd=ts[k].nd:=by
    have h1:(nds rs)[k]'(by rw [qaf];exact hlr)=rs[k].nd:=by simp [nds]
    have h2:(nds ts)[k]'(by rw [qaf];exact hlt2)=ts[k].nd:=by simp [nds]
    rw [<-h1,<-h2];simp only [HB.1.2]
   have HQ:=zS (fun W (hW:Below wr.heap.size wr W)=>eqInode_same rs[k] ts[k] W lo hi lo' hi' heq (((HA.1.1.below hbl.1).2 rs[k] (List.getElem_mem hlr)).below hW) (((HB.1.1.below hbl.1).2 ts[k] (List.getElem_mem hlt2)).below hW) (HA.1.2 rs[k] (List.getElem_mem hlr)));generalize rs[k]=r at *;generalize ts[k]=s at *;have k0:(0:Int)<=(k:Int):=by omega
   have k1:(k:Int)<(n:Int):=by omega
   clear hc1 hc2 heq;go_wp2_with fail
   go_region_held3 (fun w'=>w'.cell? ⟨b1,o1+k*9,none⟩=some (.int .i64 r.nd.id)/\w'.cell? ⟨b1,o1+k*9+1,none⟩=some (.int .i64 r.nd.parent)/\w'.cell? ⟨b1,o1+k*9+2,none⟩=some (.string r.nd.name)/\w'.cell? ⟨b1,o1+k*9+3,none⟩=some (.bool r.nd.dir)/\w'.cell? ⟨b1,o1+k*9+4,none⟩=some (.int .i64 r.nd.schema)/\w'.cell? ⟨b1,o1+k*9+5,none⟩=some (.int .i64 r.nd.quota)/\w'.cell? ⟨b1,o1+k*9+6,none⟩=some (.int .i64 r.nd.len)/\w'.cell? ⟨b1,o1+k*9+7,none⟩=some (.slice r.loc r.nd.pieces.length r.cap)/\w'.cell? ⟨b1,o1+k*9+8,none⟩=some (.int .i64 r.nd.writer)/\w'.cell? ⟨b2,o2+k*9,none⟩=some (.int .i64 s.nd.id)/\w'.cell? ⟨b2,o2+k*9+1,none⟩=some (.int .i64 s.nd.parent)/\w'.cell? ⟨b2,o2+k*9+2,none⟩=some (.string s.nd.name)/\w'.cell? ⟨b2,o2+k*9+3,none⟩=some (.bool s.nd.dir)/\w'.cell? ⟨b2,o2+k*9+4,none⟩=some (.int .i64 s.nd.schema)/\w'.cell? ⟨b2,o2+k*9+5,none⟩=some (.int .i64 s.nd.quota)/\w'.cell? ⟨b2,o2+k*9+6,none⟩=some (.int .i64 s.nd.len)/\w'.cell? ⟨b2,o2+k*9+7,none⟩=some (.slice s.loc s.nd.pieces.length s.cap)/\w'.cell? ⟨b2,o2+k*9+8,none⟩=some (.int .i64 s.nd.writer))
    (first | go_keep | (refine ⟨?_,?_,?_,?_,?_,?_,?_,?_,?_,?_,?_,?_,?_,?_,?_,?_,?_,?_⟩ <;> first | (rw [hb2.cell (by exact l1)];simp [*]) | (rw [hb2.cell (by exact l2)];simp [*])))
    ((go_at_call 134;refine (HQ.1 _ (by first | exact zB | exact Below.drew zB)).mono ?_;rintro e w2 ⟨rfl,hb2⟩))
   all_goals go_wp2_with fail
   all_goals
    have hb3:Below w.heap.size w w2:=hbl.1.trans ((Below.drew zB).trans (hb2.mono hbl.1.size));exact ⟨⟨k+1,by go_num,by omega,⟨hb3⟩⟩,by simp [intOf];omega⟩
  ·have hlt':¬ (k:Int)<(n:Int):=by omega
   go_wp2_with fail;go_ret;exact ⟨rfl,hbl.1⟩
theorem eqTree_val {w:World} {v u:Value} {T:TM} {lo hi lo' hi':Nat} (h:TSee w v T lo hi) (k:TSee w u T lo' hi') (hf:NFit T):Calls Tryz.prog 28 #[v,u] w fun e w'=>e = .returned (.bool true)/\Below w.heap.size w w':=by
 obtain ⟨a,cap,rs,rfl,hr,hm⟩:=h;obtain ⟨b,cap',ts,rfl,hr',hm'⟩:=k
 have hl:rs.length<=1048576:=by
  have:rs.length=T.nodes.length:=by rw [<-hr,qaf]
  unfold NFit at hf;omega
 have hp:∀ r ∈ rs,r.nd.pieces.length<=1048576:=fun r hx=>by
  have:=qep (ns:=T.nodes) (n:=r.nd) (by rw [<-hr];exact List.mem_map.2 ⟨r,hx,rfl⟩);unfold NFit at hf;omega
 have HS:=zS (fun W (hW:Below w.heap.size w W)=>eqInodeS_same a b rs ts cap cap' W lo hi lo' hi' (hr.trans hr'.symm) (hm.below hW) (hm'.below hW) hl hp);generalize T.next=nx at *;generalize rs.length=n at *;generalize ts.length=m at *;have HB0:=zS (show Below w.heap.size w ((w.alloc (.cells #[.slice a n cap,.int .i64 nx] 37)).alloc (.cells #[.slice b m cap',.int .i64 nx] 37)) from (zB.alloc zL _).alloc (by simp) _);have HW1:=zS ((qac w #[.slice a n cap,.int .i64 nx] 37).alloc (.cells #[.slice b m cap',.int .i64 nx] 37));have HW2:=zS (qac (w.alloc (.cells #[.slice a n cap,.int .i64 nx] 37)) #[.slice b m cap',.int .i64 nx] 37);have hz:(w.alloc (.cells #[.slice a n cap,.int .i64 nx] 37)).heap.size=w.heap.size+1:=by simp
 rw [hz] at HW2;clear hz hm hm' hr hr' hl hp hf;go_enter Tryz.func28,Tryz.ntmps28;go_wp2_with fail;refine (HS.1 _ HB0.1).mono ?_;rintro e w2 ⟨rfl,hb2⟩;have a1:=((HW1.1.grow hb2).2 1 _ rfl).1;have c1:=((HW2.1.grow hb2).2 1 _ rfl).1;have HB2:=zS (HB0.1.trans (hb2.mono HB0.1.size));clear hb2 HW1 HW2 HB0 HS;go_wp2_with fail;go_ret;exact ⟨rfl,HB2.1⟩
def SzT (left:Int) (n:Nat) (w:World) (e:Ending) (w':World):Prop:=∃ r:Int,e = .returned (.int .i64 r)/\-1<=r/\(0<=r->r+n=left)/\Below w.heap.size w w'
def NInt (ns:List NM):Prop:=∀ n ∈ ns,(Lit.int .i64 n.id).wf=true/\(Lit.int .i64 n.parent).wf=true
def NOk (ns:List NM):Prop:=ns.length<=9223372036854775807/\∀ n ∈ ns,n.name.size<=9223372036854775807/\n.pieces.length<=9223372036854775807
theorem szPieceS_any (a:Option Addr) (n cap:Nat) (left:Int) (w:World) (h0:0<=left) (h1:left<=1048576) (hn:n<=9223372036854775807) :
  Calls Tryz.prog 138 #[.slice a n cap,.int .i64 left] w fun e w'=>SzT left n w e w':=by
 by_cases c1:left - n<0
 ·go_enter Tryz.func138,Tryz.ntmps138
  go_wp2_with fail;go_ret;exact ⟨-1,rfl,by omega,by omega,zB⟩
 ·go_enter Tryz.func138,Tryz.ntmps138
  go_wp2_with fail;go_ret;exact ⟨left - n,rfl,by omega,by omega,zB⟩
theorem szInode_any (r:NR) (left:Int) (w:World) (h0:0<=left) (h1:left<=1048576) (hn:r.nd.name.size<=9223372036854775807) (hp:r.nd.pieces.length<=9223372036854775807) :
  Calls Tryz.prog 81 #[nv r,.int .i64 left] w fun e w'=>SzT left (r.nd.name.size+r.nd.pieces.length) w e w':=by
 obtain ⟨⟨id,parent,name,dir,schema,quota,len,pieces,writer⟩,loc,cap⟩:=r;dsimp only [nv] at *;generalize pieces.length=np at *;clear pieces;have HB:=zS (show Below w.heap.size w (w.alloc (.cells #[.int .i64 id,.int .i64 parent,.string name,.bool dir,.int .i64 schema,.int .i64 quota,.int .i64 len,.slice loc np cap,.int .i64 writer] 128)) from zB.alloc zL _)
 by_cases c1:left - name.size<0
 ·go_enter Tryz.func81,Tryz.ntmps81
  go_wp2_with fail;go_ret;exact ⟨-1,rfl,by omega,by omega,HB.1⟩
 ·go_enter Tryz.func81,Tryz.ntmps81
  go_wp2_with fail;refine (szPieceS_any loc np cap (left - name.size) _ (by omega) (by omega) hp).mono ?_;rintro e w2 ⟨r,rfl,hr1,hr2,hb2⟩;have HB2:=zS (HB.1.trans (hb2.mono (by simp)));have HR2:=zS hr2;clear hb2 hr2
  by_cases hr:r<0
  ·go_wp2_with fail
   go_ret;exact ⟨-1,rfl,by omega,by omega,HB2.1⟩
  ·have hr3:=HR2.1 (by omega)
   go_wp2_with fail;go_ret;exact ⟨r,rfl,by omega,fun _=>by push_cast;omega,HB2.1⟩
theorem szInodeS_any (a:Option Addr) (rs:List NR) (cap:Nat) (left:Int) (w:World) (lo hi:Nat) (hm:TR w a rs lo hi) (hf:NOk (nds rs)) (h0:0<=left) (h1:left<=1048576) :
  Calls Tryz.prog 37 #[.slice a rs.length cap,.int .i64 left] w fun e w'=>SzT left (rs.length+nsum (nds rs)) w e w':=by
 have hl:rs.length<=9223372036854775807:=by have:=hf.1;rwa [qaf] at this
 by_cases c1:left - rs.length<0
 ·clear hm hf
  go_enter Tryz.func37,Tryz.ntmps37;go_wp2_with fail;go_ret;exact ⟨-1,rfl,by omega,by omega,zB⟩
 ·have HR:=zS hm
  have HF:=zS hf;clear hm hf;go_enter Tryz.func37,Tryz.ntmps37;go_wp2_with fail;go_loopw [1,5] (fun v i wr=>∃ (k:Nat) (l:Int),v = .int .i64 l/\i = .int .i64 k/\k<=rs.length/\0<=l/\l<=1048576/\Sh (l+rs.length+nsum ((nds rs).take k)=left)/\Sh (Below w.heap.size w wr)) (fun _ i _=>rs.length - (intOf i).toNat)
  case atStart=>exact ⟨0,left - rs.length,rfl,rfl,Nat.zero_le _,by omega,by omega,⟨by simp [nsum]⟩,⟨zB⟩⟩
  case round =>
   obtain ⟨k,l,rfl,rfl,hk,hl0,hl1,hsum,hb⟩:=hrel
   by_cases hlt:k<rs.length
   ·obtain ⟨b,off,rfl,hbl,hc⟩:=TR.nat (HR.1.below hb.1) (by omega)
    obtain ⟨d0,d1,d2,d3,d4,d5,d6,d7,d8⟩:=hc k hlt;have hst:=nsum_take (nds rs) k (by rw [qaf];exact hlt);have hget:(nds rs)[k]'(by rw [qaf];exact hlt)=rs[k].nd:=by simp [nds]
    rw [hget] at hst;have HST:=zS hst;have hfk:=HF.1.2 rs[k].nd (List.mem_map.2 ⟨rs[k],List.getElem_mem hlt,rfl⟩);generalize rs[k]=r at *;have k0:(0:Int)<=(k:Int):=by omega
    have k1:(k:Int)<(rs.length:Int):=by omega
    clear hc hst hget;go_wp2_with fail;refine (szInode_any r l _ hl0 hl1 hfk.1 hfk.2).mono ?_;rintro e w2 ⟨q,rfl,hr1,hr2,hb2⟩;have HB2:=zS (hb.1.trans (hb2.mono hb.1.size));have HR2:=zS hr2;clear hb2 hr2
    by_cases hr:q<0
    ·go_wp2_with fail
     go_ret;exact ⟨-1,rfl,by omega,by omega,HB2.1⟩
    ·have hr3:=HR2.1 (by omega)
     have HR3:=zS hr3;have hq:q<=1048576:=by omega
     clear hr3 HR2;go_wp2_with fail;go_roundw
     case rel=>exact ⟨k+1,q,rfl,by go_num,by omega,by omega,hq,⟨by rw [HST.1];have:=HR3.1;have:=hsum.1;push_cast at *;omega⟩,HB2⟩
     case measure=>simp [intOf];omega
   ·have hk':¬ (k:Int)<(rs.length:Int):=by omega
    have HS:Sh (l+rs.length+nsum (nds rs)=left):=⟨by have:=hsum.1;rwa [List.take_of_length_le (by rw [qaf];omega)] at this⟩;clear hsum;go_wp2_with fail;go_ret;exact ⟨l,rfl,by omega,fun _=>by have:=HS.1;push_cast;omega,hb.1⟩
theorem szTree_val {w:World} {v:Value} {T:TM} {lo hi:Nat} (left:Int) (h:TSee w v T lo hi) (hf:NOk T.nodes) (h0:0<=left) (h1:left<=1048576) :
  Calls Tryz.prog 13 #[v,.int .i64 left] w fun e w'=>SzT left (T.nodes.length+nsum T.nodes) w e w':=by
 obtain ⟨a,cap,rs,rfl,hr,hm⟩:=h;have hl:T.nodes.length=rs.length:=by rw [<-hr,qaf]
 rw [hl,<-hr];rw [<-hr] at hf;have HB:=zS (show Below w.heap.size w (w.alloc (.cells #[.slice a rs.length cap,.int .i64 T.next] 24)) from zB.alloc zL _);have HS:=zS (fun W (hW:Below w.heap.size w W)=>szInodeS_any a rs cap left W lo hi (hm.below hW) hf h0 h1);generalize rs.length+nsum (nds rs)=N at *;generalize rs.length=n at *;clear hm hf hr hl;go_enter Tryz.func13,Tryz.ntmps13;go_wp2_with fail;refine (HS.1 _ HB.1).mono ?_;rintro e w2 ⟨r,rfl,hr1,hr2,hb2⟩;have HB2:=zS (HB.1.trans (hb2.mono HB.1.size));have HR2:=zS hr2;clear hb2 hr2
 by_cases hr:r<0
 ·go_wp2_with fail
  go_ret;exact ⟨-1,rfl,by omega,by omega,HB2.1⟩
 ·go_wp2_with fail
  go_ret;exact ⟨r,rfl,hr1,HR2.1,HB2.1⟩
structure FM where
 name:ByteArray
 text:ByteArray
 kept:Int
instance:Inhabited FM:=⟨⟨⟨#[]⟩,⟨#[]⟩,0⟩⟩
abbrev fv (f:FM):Value:=.agg #[.string f.name,.string f.text,.int .i64 f.kept]
def qbz (f:FM):List Value:=[.string f.name,.string f.text,.int .i64 f.kept]
theorem qbb (f:FM):(qbz f).length=3:=rfl
def fcs (fs:List FM):List Value:=fs.flatMap qbz
theorem qik (fs:List FM):(fcs fs).length=fs.length*3:=qch qbb fs
abbrev FRow (w:World) (a:Option Addr) (fs:List FM):Prop:=CRow w a (fcs fs)
theorem FRow.at {w:World} {a:Option Addr} {fs:List FM} (h:FRow w a fs) (hp:0<fs.length) :
  ∃ b off,a=some ⟨b,off,none⟩/\b<w.heap.size/\∀ j (h:j<fs.length),w.cell? ⟨b,off+j*3,none⟩=some (.string fs[j].name)/\w.cell? ⟨b,off+j*3+1,none⟩=some (.string fs[j].text)/\w.cell? ⟨b,off+j*3+2,none⟩=some (.int .i64 fs[j].kept):=by
 obtain ⟨b,off,e,hb,hc⟩:=h (by rw [qik];omega);exact ⟨b,off,e,hb,fun j hj=>⟨hc (j*3) _ (flat_get qbb fs j hj 0 (by omega)),hc (j*3+1) _ (flat_get qbb fs j hj 1 (by omega)),hc (j*3+2) _ (flat_get qbb fs j hj 2 (by omega))⟩⟩
def FFit (fs:List FM):Prop:=fs.length<=9223372036854775807/\∀ f ∈ fs,f.name.size<=9223372036854775807/\f.text.size<=9223372036854775807/\-9223372036854775808<=f.kept/\f.kept<=9223372036854775807
def fsum:List FM->Nat
 | []=>0
 | f::fs=>f.name.size+f.text.size+fsum fs
theorem fsum_take (fs:List FM) (k:Nat) (h:k<fs.length):fsum (fs.take (k+1))=fsum (fs.take k)+(fs[k].name.size+fs[k].text.size):=by
 induction fs generalizing k with
 | nil=>simp at h
 | cons f fs ih =>
  cases k with
  | zero=>simp [fsum]
  | succ k =>
   have:=ih k (by simpa using h);simp only [List.take_succ_cons,fsum,List.getElem_cons_succ];omega
def qrj (left:Int) (n:Nat) (w:World) (e:Ending) (w':World):Prop:=∃ r:Int,e = .returned (.int .i64 r)/\-1<=r/\(0<=r->r+n=left)/\Below w.heap.size w w'
theorem szFile_any (f:FM) (left:Int) (w:World) (h0:0<=left) (h1:left<=1048576) (hn:f.name.size<=9223372036854775807) (ht:f.text.size<=9223372036854775807) :
  Calls Tryz.prog 82 #[fv f,.int .i64 left] w fun e w'=>qrj left (f.name.size+f.text.size) w e w':=by
 by_cases c1:left - f.name.size<0
 ·go_enter Tryz.func82,Tryz.ntmps82
  go_wp2_with fail;go_ret;exact ⟨-1,rfl,by omega,by omega,zB.alloc zL _⟩
 ·by_cases c2:left - f.name.size - f.text.size<0
  ·go_enter Tryz.func82,Tryz.ntmps82
   go_wp2_with fail;go_ret;exact ⟨-1,rfl,by omega,by omega,zB.alloc zL _⟩
  ·go_enter Tryz.func82,Tryz.ntmps82
   go_wp2_with fail;go_ret;exact ⟨left - f.name.size - f.text.size,rfl,by omega,by intro _;push_cast;omega,zB.alloc zL _⟩
theorem szFileS_any (a:Option Addr) (fs:List FM) (cap:Nat) (left:Int) (w:World) (hr:FRow w a fs) (hf:FFit fs) (h0:0<=left) (h1:left<=1048576) :
  Calls Tryz.prog 38 #[.slice a fs.length cap,.int .i64 left] w fun e w'=>qrj left (fs.length+fsum fs) w e w':=by
 have hl:=hf.1
 by_cases c1:left - fs.length<0
 ·clear hr hf
  go_enter Tryz.func38,Tryz.ntmps38;go_wp2_with fail;go_ret;exact ⟨-1,rfl,by omega,by omega,zB⟩
 ·have HR:Hid (FRow w a fs):=hr
  have HF:Hid (FFit fs):=hf;clear hr hf;go_enter Tryz.func38,Tryz.ntmps38;go_wp2_with fail;go_loopw [1,5] (fun v i wr=>∃ (k:Nat) (l:Int),v = .int .i64 l/\i = .int .i64 k/\k<=fs.length/\0<=l/\l+fs.length+fsum (fs.take k)=left/\Below w.heap.size w wr) (fun _ i _=>fs.length - (intOf i).toNat)
  case atStart=>exact ⟨0,left - fs.length,rfl,rfl,Nat.zero_le _,by omega,by simp [fsum],zB⟩
  case round =>
   obtain ⟨k,l,rfl,rfl,hk,hl0,hsum,hb⟩:=hrel
   by_cases hlt:k<fs.length
   ·obtain ⟨b,off,rfl,hbl,hc⟩:=FRow.at (HR.out.stays hb) (by omega)
    obtain ⟨d0,d1,d2⟩:=hc k hlt;have HS:Hid (l+fs.length+fsum (fs.take k)=left):=hsum;have hst:=fsum_take fs k hlt;have HST:Hid (fsum (fs.take (k+1))=fsum (fs.take k)+(fs[k].name.size+fs[k].text.size)):=hst;have hfk:=HF.out.2 fs[k] (List.getElem_mem hlt);obtain ⟨f,hfe⟩:∃ f,f=fs[k]:=⟨_,rfl⟩;rw [<-hfe] at d0 d1 d2 hfk;have HFE:Hid (f=fs[k]):=hfe;have HB:Hid (Below w.heap.size w wr):=hb;have hl1:l<=1048576:=by omega
    have k0:(0:Int)<=(k:Int):=by omega
    have k1:(k:Int)<(fs.length:Int):=by omega
    clear hc hsum hst hfe hb;go_wp2_with fail;refine (szFile_any f l _ hl0 hl1 hfk.1 hfk.2.1).mono ?_;rintro e w2 ⟨r,rfl,hr1,hr2,hb2⟩;have HB2:Hid (Below w.heap.size w w2):=HB.out.trans (hb2.mono HB.out.size);clear hb2
    by_cases hr:r<0
    ·go_wp2_with fail
     go_ret;exact ⟨-1,rfl,by omega,by omega,HB2.out⟩
    ·have hr3:=hr2 (by omega)
     have HR3:Hid (r+((f.name.size+f.text.size:Nat):Int)=l):=hr3;clear hr2 hr3;go_wp2_with fail;go_roundw
     case rel=>exact ⟨k+1,r,rfl,by go_num,by omega,by omega,by rw [HST.out,<-HFE.out];have:=HR3.out;have:=HS.out;push_cast at *;omega,HB2.out⟩
     case measure=>simp [intOf];omega
   ·obtain rfl:k=fs.length:=by omega
    rw [List.take_length] at hsum;go_wp2_with fail;go_ret;exact ⟨l,rfl,by omega,by intro _;push_cast;omega,hb⟩
theorem szDisk_any (a:Option Addr) (fs:List FM) (cap:Nat) (left:Int) (w:World) (hr:FRow w a fs) (hf:FFit fs) (h0:0<=left) (h1:left<=1048576) :
  Calls Tryz.prog 14 #[.agg #[.slice a fs.length cap],.int .i64 left] w fun e w'=>qrj left (fs.length+fsum fs) w e w':=by
 have HR:Hid (FRow (w.alloc (.cells #[.slice a fs.length cap] 27)) a fs):=hr.stays (zB.alloc zL _);have HF:Hid (FFit fs):=hf;clear hr hf;go_enter Tryz.func14,Tryz.ntmps14;go_wp2_with fail;refine (szFileS_any a fs cap left _ HR.out HF.out h0 h1).mono ?_;rintro e w2 ⟨r,rfl,hr1,hr2,hb2⟩;have HB2:Hid (Below w.heap.size w w2):=(zB.alloc zL _).trans (hb2.mono (by simp));have HR2:Hid (0<=r->r+((fs.length+fsum fs:Nat):Int)=left):=hr2;clear hb2 hr2
 by_cases hr:r<0
 ·go_wp2_with fail
  go_ret;exact ⟨-1,rfl,by omega,by omega,HB2.out⟩
 ·go_wp2_with fail
  go_ret;exact ⟨r,rfl,hr1,HR2.out,HB2.out⟩
theorem toFile_any (f:FM) (w:World) :
  Calls Tryz.prog 101 #[fv f] w fun e w'=>e = .returned (fv f)/\Below w.heap.size w w':=by
 go_enter Tryz.func101,Tryz.ntmps101;go_wp2_with fail;refine bodyPost_ret (v:=fv f) (by simp [results,Tryz.results101,go_sem]) rfl ⟨rfl,?_⟩;exact ((zB.alloc zL _).alloc (by simp) _).alloc (by simp;omega) _
def ToPost (fs:List FM) (w:World) (e:Ending) (w':World):Prop:=∃ g,e = .returned (.slice (some ⟨g,0,none⟩) fs.length fs.length)/\w.heap.size<=g/\WCells w' g (fcs fs)/\Below w.heap.size w w'
theorem qfh:(Tryz.prog.info? 150).map (fun i=>(i.zero,i.size,i.bytes))=some (some (.agg #[.string ⟨#[]⟩,.string ⟨#[]⟩,.int .i64 0]),3,40):=by kernel_rfl
theorem toFileS_any (a:Option Addr) (fs:List FM) (cap:Nat) (w:World) (hr:FRow w a fs) (hf:FFit fs) (hl:fs.length<=1048576) :
  Calls Tryz.prog 56 #[.slice a fs.length cap] w fun e w'=>ToPost fs w e w':=by
 obtain ⟨i0,hi,hz0,hz1,hz2⟩:=info_parts qfh;have HR:Hid (FRow w a fs):=hr;have HF:Hid (FFit fs):=hf;clear hr hf;go_enter Tryz.func56,Tryz.ntmps56;go_wp2_with (at_make;refine wpList_make_full _ rfl _ _ 38 rfl w.heap.size 150 i0 _ 3 Tryz.underlying38 hi hz0 hz1 .i64 .i64 _ _ fs.length rfl rfl (by omega) (by omega) ?b2 ?b3 ?b4 ?_)
 case b2=>rw [hz2];omega
 case b3=>unfold maxLen;omega
 case b4=>omega
 intro wm hownm hgrm;have hbm:Below w.heap.size w wm:=zB.grown hgrm zL (fun j hj=>by simp at hj)
 have hrow:WCells wm w.heap.size (fcs (List.replicate fs.length default)):=by
  have h:=qan hownm;have e:(madeCells #[.string ⟨#[]⟩,.string ⟨#[]⟩,.int .i64 0] (fs.length*3)).toList=fcs (List.replicate fs.length default):=qhx qbb (by decide) #[.string ⟨#[]⟩,.string ⟨#[]⟩,.int .i64 0] default rfl _;rw [e] at h;exact h
 clear hownm hgrm;go_wp2_with fail;go_loopw [4] (fun i wr=>∃ (k:Nat) (gs:List FM),i = .int .i64 k/\k<=fs.length/\gs.length=fs.length/\gs.take k=fs.take k/\WCells wr w.heap.size (fcs gs)/\Below w.heap.size w wr) (fun i _=>fs.length - (intOf i).toNat)
 case atStart=>exact ⟨0,_,rfl,by omega,by simp,by simp,hrow,hbm⟩
 case round =>
  clear hrow hbm;obtain ⟨k,gs,rfl,hk,hgl,hgt,hw,hb⟩:=hrel
  by_cases hlt:k<fs.length
  ·obtain ⟨b,off,rfl,hbl,hc⟩:=FRow.at HR.out (by omega)
   obtain ⟨d0,d1,d2⟩:=hc k hlt;rw [<-hb.cell (p:=⟨b,off+k*3,none⟩) hbl] at d0;rw [<-hb.cell (p:=⟨b,off+k*3+1,none⟩) hbl] at d1;rw [<-hb.cell (p:=⟨b,off+k*3+2,none⟩) hbl] at d2;obtain ⟨f,hfe⟩:∃ f,f=fs[k]:=⟨_,rfl⟩;rw [<-hfe] at d0 d1 d2;have k0:(0:Int)<=(k:Int):=by omega
   have k1:(k:Int)<(fs.length:Int):=by omega
   have HFE:Hid (f=fs[k]):=hfe;have HG:Hid (gs.length=fs.length/\gs.take k=fs.take k):=⟨hgl,hgt⟩;clear hc hfe hgl hgt;go_wp2_with fail;refine (toFile_any f _).mono ?_;rintro e w2 ⟨rfl,hb2⟩;have hw2:=hw.below hb2 hw.1;have hb3:Below w.heap.size w w2:=hb.trans (hb2.mono hb.size);clear hw hb hb2 d0 d1 d2;have hgk:k<gs.length:=by have:=HG.out.1;omega
   obtain ⟨c0,z0⟩:=hw2.2 (k*3) _ (flat_get qbb gs k hgk 0 (by omega));obtain ⟨c1,z1⟩:=hw2.2 (k*3+1) _ (flat_get qbb gs k hgk 1 (by omega));obtain ⟨c2,z2⟩:=hw2.2 (k*3+2) _ (flat_get qbb gs k hgk 2 (by omega));have HW:Hid (WCells w2 w.heap.size (fcs gs)):=hw2;clear hw2;have hset:=HW.out.setElem qbb k hgk f;have hbn:=qdx hb3 zL (k*3) (qbz f);have HS:Hid (WCells (setW w2 w.heap.size (k*3) (qbz f)) w.heap.size (fcs (gs.set k f))):=hset;have HBN:Hid (Below w.heap.size w (setW w2 w.heap.size (k*3) (qbz f))):=hbn;clear hset hbn;go_wp2_with fail;go_roundw
   case rel =>
    refine ⟨k+1,gs.set k f,by go_num,by omega,by rw [List.length_set];exact HG.out.1,?_,HS.out,HBN.out⟩;rw [List.take_succ_eq_append_getElem (by rw [List.length_set];exact hgk),List.take_succ_eq_append_getElem hlt,List.take_set_of_le zL,HG.out.2,List.getElem_set_self,HFE.out]
   case measure=>simp [intOf];omega
  ·have e:gs=fs:=by
    rw [List.take_of_length_le (by omega),List.take_of_length_le (by omega)] at hgt;exact hgt
   subst e;go_wp2_with fail;go_ret;exact ⟨_,rfl,zL,hw,hb⟩
def qrk (fs:List FM) (w:World) (e:Ending) (w':World):Prop:=∃ g,e = .returned (.agg #[.slice (some ⟨g,0,none⟩) fs.length fs.length])/\w.heap.size<=g/\WCells w' g (fcs fs)/\Below w.heap.size w w'
theorem toDisk_any (a:Option Addr) (fs:List FM) (cap:Nat) (w:World) (hr:FRow w a fs) (hf:FFit fs) (hl:fs.length<=1048576) :
  Calls Tryz.prog 22 #[.agg #[.slice a fs.length cap]] w fun e w'=>qrk fs w e w':=by
 have hb0:Below w.heap.size w (((w.alloc (.cells #[.slice a fs.length cap] 27)).alloc (.cells #[.slice none 0 0] 40)).alloc (.cells #[.slice none 0 0] 40)):=((zB.alloc zL _).alloc (by simp) _).alloc (by simp;omega) _;have HR:Hid (FRow (((w.alloc (.cells #[.slice a fs.length cap] 27)).alloc (.cells #[.slice none 0 0] 40)).alloc (.cells #[.slice none 0 0] 40)) a fs):=hr.stays hb0;have HB0:Hid (Below w.heap.size w (((w.alloc (.cells #[.slice a fs.length cap] 27)).alloc (.cells #[.slice none 0 0] 40)).alloc (.cells #[.slice none 0 0] 40))):=hb0;have HF:Hid (FFit fs):=hf;clear hr hf hb0;go_enter Tryz.func22,Tryz.ntmps22;go_wp2_with fail;refine (toFileS_any a fs cap _ HR.out HF.out hl).mono ?_;rintro e w2 ⟨g,rfl,hg,hw,hb⟩;have hg3:w.heap.size+3<=g:=by simpa using hg
 have r1:=(((qac (w.alloc (.cells #[.slice a fs.length cap] 27)) #[.slice none 0 0] 40).alloc (.cells #[.slice none 0 0] 40)).grow hb).2 0 _ rfl;have r2:=((qac ((w.alloc (.cells #[.slice a fs.length cap] 27)).alloc (.cells #[.slice none 0 0] 40)) #[.slice none 0 0] 40).grow hb).2 0 _ rfl;simp only [World.size_alloc] at r1 r2;obtain ⟨c1,f1⟩:=r1;obtain ⟨c2,f2⟩:=r2;have HW:Hid (WCells w2 g (fcs fs)):=hw;have HB:Hid (Below w.heap.size w w2):=HB0.out.trans (hb.mono (by simp;omega));clear hw hb hg;go_wp2_with fail;refine bodyPost_ret (v:=.agg #[.slice (some ⟨g,0,none⟩) fs.length fs.length]) (by simp [results,Tryz.results22,go_sem,c1]) rfl ⟨g,rfl,by omega,(HW.out.other _ _ (by simp;omega)).other _ _ (by simp;omega),(HB.out.setCell (by simp;omega) _).setCell (by simp) _⟩
theorem eqFile_same (f:FM) (w:World) :
  Calls Tryz.prog 135 #[fv f,fv f] w fun e w'=>e = .returned (.bool true)/\Below w.heap.size w w':=by
 go_enter Tryz.func135,Tryz.ntmps135;go_wp2_with fail;go_ret;exact ⟨rfl,(zB.alloc zL _).alloc (by simp) _⟩
theorem eqFileS_same (a b:Option Addr) (fs:List FM) (ca cb:Nat) (w:World) (ha:FRow w a fs) (hb:FRow w b fs) (hl:fs.length<=1048576) :
  Calls Tryz.prog 74 #[.slice a fs.length ca,.slice b fs.length cb] w fun e w'=>e = .returned (.bool true)/\Below w.heap.size w w':=by
 have HA:Hid (FRow w a fs):=ha;have HB:Hid (FRow w b fs):=hb;clear ha hb;go_enter Tryz.func74,Tryz.ntmps74;go_wp2_with fail;go_loopw [5] (fun i wr=>∃ (k:Nat),i = .int .i64 k/\k<=fs.length/\Below w.heap.size w wr) (fun i _=>fs.length - (intOf i).toNat)
 case atStart=>exact ⟨0,rfl,Nat.zero_le _,zB⟩
 case round =>
  obtain ⟨k,rfl,hk,hbl⟩:=hrel
  by_cases hlt:k<fs.length
  ·obtain ⟨b1,o1,rfl,l1,hc1⟩:=FRow.at (HA.out.stays hbl) (by omega)
   obtain ⟨b2,o2,rfl,l2,hc2⟩:=FRow.at (HB.out.stays hbl) (by omega);obtain ⟨d0,d1,d2⟩:=hc1 k hlt;obtain ⟨e0,e1,e2⟩:=hc2 k hlt;obtain ⟨f,hfe⟩:∃ f,f=fs[k]:=⟨_,rfl⟩;rw [<-hfe] at d0 d1 d2 e0 e1 e2;have HS:Hid (Below w.heap.size w wr):=hbl;have k0:(0:Int)<=(k:Int):=by omega
   have k1:(k:Int)<(fs.length:Int):=by omega
   clear hc1 hc2 hfe hbl;go_wp2_with fail
   go_region_held3 (fun w'=>w'.cell? ⟨b1,o1+k*3,none⟩=some (.string f.name)/\w'.cell? ⟨b1,o1+k*3+1,none⟩=some (.string f.text)/\w'.cell? ⟨b1,o1+k*3+2,none⟩=some (.int .i64 f.kept)/\w'.cell? ⟨b2,o2+k*3,none⟩=some (.string f.name)/\w'.cell? ⟨b2,o2+k*3+1,none⟩=some (.string f.text)/\w'.cell? ⟨b2,o2+k*3+2,none⟩=some (.int .i64 f.kept))
    (first | go_keep | (refine ⟨?_,?_,?_,?_,?_,?_⟩ <;> first | (rw [hb2.cell (by exact l1)];simp [*]) | (rw [hb2.cell (by exact l2)];simp [*])))
    ((go_at_call 135;refine (eqFile_same f _).mono ?_;rintro e w2 ⟨rfl,hb2⟩))
   all_goals go_wp2_with fail
   all_goals
    have hb3:Below w.heap.size w w2:=HS.out.trans ((Below.drew zB).trans (hb2.mono HS.out.size));exact ⟨⟨k+1,by go_num,by omega,hb3⟩,by simp [intOf];omega⟩
  ·have e:k=fs.length:=by omega
   subst e;go_wp2_with fail;go_ret;exact ⟨rfl,hbl⟩
theorem eqDisk_same (a b:Option Addr) (fs:List FM) (ca cb:Nat) (w:World) (ha:FRow w a fs) (hb:FRow w b fs) (hl:fs.length<=1048576) :
  Calls Tryz.prog 29 #[.agg #[.slice a fs.length ca],.agg #[.slice b fs.length cb]] w fun e w'=>e = .returned (.bool true)/\Below w.heap.size w w':=by
 have hb0:Below w.heap.size w ((w.alloc (.cells #[.slice a fs.length ca] 40)).alloc (.cells #[.slice b fs.length cb] 40)):=(zB.alloc zL _).alloc (by simp) _;have HA:Hid (FRow ((w.alloc (.cells #[.slice a fs.length ca] 40)).alloc (.cells #[.slice b fs.length cb] 40)) a fs):=ha.stays hb0;have HB:Hid (FRow ((w.alloc (.cells #[.slice a fs.length ca] 40)).alloc (.cells #[.slice b fs.length cb] 40)) b fs):=hb.stays hb0;have HB0:Hid (Below w.heap.size w ((w.alloc (.cells #[.slice a fs.length ca] 40)).alloc (.cells #[.slice b fs.length cb] 40))):=hb0;clear ha hb hb0;go_enter Tryz.func29,Tryz.ntmps29;go_wp2_with fail;refine (eqFileS_same a b fs ca cb _ HA.out HB.out hl).mono ?_;rintro e w2 ⟨rfl,hb2⟩;have HB2:Hid (Below w.heap.size w w2):=HB0.out.trans (hb2.mono HB0.out.size);clear hb2;go_wp2_with fail;go_ret;exact ⟨rfl,HB2.out⟩
theorem qll (x l m:Int) (w:World) :
  Calls Tryz.prog 44 #[.int .i64 x,.int .i64 l,.int .i64 m] w fun e w'=>e = .returned (.bool (decide (l<=x/\x<=m)))/\w'=w:=by
 by_cases c1:l<=x
 ·by_cases c2:x<=m
  ·go_enter Tryz.func44,Tryz.ntmps44
   go_wp2_with fail;go_ret;exact ⟨by rw [decide_eq_true ⟨c1,c2⟩];rfl,rfl⟩
  ·go_enter Tryz.func44,Tryz.ntmps44
   go_wp2_with fail;go_ret;exact ⟨by rw [decide_eq_false (by omega)];rfl,rfl⟩
 ·have c1':decide (l<=x)=false:=by simp;omega
  have e:decide (l<=x/\x<=m)=false:=decide_eq_false (fun h=>c1 h.1);rw [e];clear e;go_enter Tryz.func44,Tryz.ntmps44;go_wp2_with fail;go_ret;exact ⟨rfl,rfl⟩
theorem l03Name_any (s:ByteArray) (w:World) :
  Calls Tryz.prog 96 #[.string s] w fun e w'=>e = .returned (.bool (decide (1<=s.size/\s.size<=8)))/\w'=w:=by
 have e:decide ((1:Int)<=(s.size:Int)/\(s.size:Int)<=8)=decide (1<=s.size/\s.size<=8):=decide_eq_decide.2 (by omega);rw [<-e];generalize hd:decide ((1:Int)<=(s.size:Int)/\(s.size:Int)<=8)=d;have HD:Hid (decide ((1:Int)<=(s.size:Int)/\(s.size:Int)<=8)=d):=hd;clear e hd;go_enter Tryz.func96,Tryz.ntmps96;go_wp2_with fail;refine (qll _ _ _ _).mono ?_;rw [HD.out];rintro e w2 ⟨rfl,rfl⟩;go_wp2_with fail;go_ret;exact ⟨rfl,rfl⟩
structure LsM where
 path:ByteArray
 who:Int
 seen:Int
instance:Inhabited LsM:=⟨⟨⟨#[]⟩,0,0⟩⟩
abbrev lsv (f:LsM):Value:=.agg #[.string f.path,.int .i64 f.who,.int .i64 f.seen]
def lsC (f:LsM):List Value:=[.string f.path,.int .i64 f.who,.int .i64 f.seen]
theorem qdm (f:LsM):(lsC f).length=3:=rfl
def lsS (fs:List LsM):List Value:=fs.flatMap lsC
theorem qkk (fs:List LsM):(lsS fs).length=fs.length*3:=qch qdm fs
abbrev LsRow (w:World) (a:Option Addr) (fs:List LsM):Prop:=CRow w a (lsS fs)
theorem LsRow.at {w:World} {a:Option Addr} {fs:List LsM} (h:LsRow w a fs) (hp:0<fs.length) :
  ∃ b off,a=some ⟨b,off,none⟩/\b<w.heap.size/\∀ j (h:j<fs.length),w.cell? ⟨b,off+j*3,none⟩=some (.string fs[j].path)/\w.cell? ⟨b,off+j*3+1,none⟩=some (.int .i64 fs[j].who)/\w.cell? ⟨b,off+j*3+2,none⟩=some (.int .i64 fs[j].seen):=by
 obtain ⟨b,off,e,hb,hc⟩:=h (by rw [qkk];omega);exact ⟨b,off,e,hb,fun j hj=>⟨hc (j*3) _ (flat_get qdm fs j hj 0 (by omega)),hc (j*3+1) _ (flat_get qdm fs j hj 1 (by omega)),hc (j*3+2) _ (flat_get qdm fs j hj 2 (by omega))⟩⟩
def LsFit (f:LsM):Prop:=f.path.size<=9223372036854775807/\(-9223372036854775808<=f.who/\f.who<=9223372036854775807)/\(-9223372036854775808<=f.seen/\f.seen<=9223372036854775807)
def LsFits (fs:List LsM):Prop:=fs.length<=9223372036854775807/\∀ f ∈ fs,LsFit f
def lsSum:List LsM->Nat
 | []=>0
 | f::fs=>f.path.size+lsSum fs
theorem lsSum_take (fs:List LsM) (k:Nat) (h:k<fs.length):lsSum (fs.take (k+1))=lsSum (fs.take k)+(fs[k].path.size):=by
 induction fs generalizing k with
 | nil=>simp at h
 | cons f fs ih =>
  cases k with
  | zero=>simp [lsSum]
  | succ k =>
   have:=ih k (by simpa using h);simp only [List.take_succ_cons,lsSum,List.getElem_cons_succ];omega
theorem lsSum_mem {fs:List LsM} {f:LsM} (h:f ∈ fs):f.path.size<=lsSum fs:=by
 induction fs with
 | nil=>cases h
 | cons g fs ih =>
  rcases List.mem_cons.1 h with rfl | q
  ·simp only [lsSum];omega
  ·have:=ih q
   simp only [lsSum];omega
def qqi (left:Int) (n:Nat) (w:World) (e:Ending) (w':World):Prop:=∃ r:Int,e = .returned (.int .i64 r)/\-1<=r/\(0<=r->r+n=left)/\Below w.heap.size w w'
theorem szLease_any (f:LsM) (left:Int) (w:World) (h0:0<=left) (h1:left<=1048576) (hf:LsFit f) :
  Calls Tryz.prog 39 #[lsv f,.int .i64 left] w fun e w'=>qqi left (f.path.size) w e w':=by
 have hh:=hf;unfold LsFit at hh;clear hf
 by_cases c_path:left - f.path.size<0
 ·go_enter Tryz.func39,Tryz.ntmps39
  go_wp2_with fail;go_ret;exact ⟨-1,rfl,by omega,by first | omega | (intro _;push_cast;omega),zB.alloc zL _⟩
 ·skip
  go_enter Tryz.func39,Tryz.ntmps39;go_wp2_with fail;go_ret;exact ⟨left - f.path.size,rfl,by omega,by first | omega | (intro _;push_cast;omega),zB.alloc zL _⟩
theorem szLeaseS_any (a:Option Addr) (fs:List LsM) (cap:Nat) (left:Int) (w:World) (hr:LsRow w a fs) (hf:LsFits fs) (h0:0<=left) (h1:left<=1048576) :
  Calls Tryz.prog 15 #[.slice a fs.length cap,.int .i64 left] w fun e w'=>qqi left (fs.length+lsSum fs) w e w':=by
 have hl:=hf.1
 by_cases c1:left - fs.length<0
 ·clear hr hf
  go_enter Tryz.func15,Tryz.ntmps15;go_wp2_with fail;go_ret;exact ⟨-1,rfl,by omega,by omega,zB⟩
 ·have HR:Hid (LsRow w a fs):=hr
  have HF:Hid (LsFits fs):=hf;clear hr hf;go_enter Tryz.func15,Tryz.ntmps15;go_wp2_with fail;go_loopw [1,5] (fun v i wr=>∃ (k:Nat) (l:Int),v = .int .i64 l/\i = .int .i64 k/\k<=fs.length/\0<=l/\l+fs.length+lsSum (fs.take k)=left/\Below w.heap.size w wr) (fun _ i _=>fs.length - (intOf i).toNat)
  case atStart=>exact ⟨0,left - fs.length,rfl,rfl,Nat.zero_le _,by omega,by simp [lsSum],zB⟩
  case round =>
   obtain ⟨k,l,rfl,rfl,hk,hl0,hsum,hb⟩:=hrel
   by_cases hlt:k<fs.length
   ·obtain ⟨b,off,rfl,hbl,hc⟩:=LsRow.at (HR.out.stays hb) (by omega)
    obtain ⟨d0,d1,d2⟩:=hc k hlt;have HS:Hid (l+fs.length+lsSum (fs.take k)=left):=hsum;have hst:=lsSum_take fs k hlt;have HST:Hid (lsSum (fs.take (k+1))=lsSum (fs.take k)+(fs[k].path.size)):=hst;have hfk:=HF.out.2 fs[k] (List.getElem_mem hlt);obtain ⟨f,hfe⟩:∃ f,f=fs[k]:=⟨_,rfl⟩;rw [<-hfe] at d0 d1 d2 hfk;have HFE:Hid (f=fs[k]):=hfe;have HB:Hid (Below w.heap.size w wr):=hb;have hl1:l<=1048576:=by omega
    have k0:(0:Int)<=(k:Int):=by omega
    have k1:(k:Int)<(fs.length:Int):=by omega
    clear hc hsum hst hfe hb;go_wp2_with fail;refine (szLease_any f l _ hl0 hl1 hfk).mono ?_;rintro e w2 ⟨r,rfl,hr1,hr2,hb2⟩;have HB2:Hid (Below w.heap.size w w2):=HB.out.trans (hb2.mono HB.out.size);clear hb2
    by_cases hr:r<0
    ·go_wp2_with fail
     go_ret;exact ⟨-1,rfl,by omega,by omega,HB2.out⟩
    ·have hr3:=hr2 (by omega)
     have HR3:Hid (r+((f.path.size:Nat):Int)=l):=hr3;clear hr2 hr3;go_wp2_with fail;go_roundw
     case rel=>exact ⟨k+1,r,rfl,by go_num,by omega,by omega,by rw [HST.out,<-HFE.out];have:=HR3.out;have:=HS.out;push_cast at *;omega,HB2.out⟩
     case measure=>simp [intOf];omega
   ·obtain rfl:k=fs.length:=by omega
    rw [List.take_length] at hsum;go_wp2_with fail;go_ret;exact ⟨l,rfl,by omega,by intro _;push_cast;omega,hb⟩
theorem toLease_any (f:LsM) (w:World) :
  Calls Tryz.prog 57 #[lsv f] w fun e w'=>e = .returned (lsv f)/\Below w.heap.size w w':=by
 go_enter Tryz.func57,Tryz.ntmps57;go_wp2_with fail;refine bodyPost_ret (v:=lsv f) (by simp [results,Tryz.results57,go_sem]) rfl ⟨rfl,?_⟩;exact ((zB.alloc zL _).alloc (by simp) _).alloc (by simp;omega) _
def qqj (fs:List LsM) (w:World) (e:Ending) (w':World):Prop:=∃ g,e = .returned (.slice (some ⟨g,0,none⟩) fs.length fs.length)/\w.heap.size<=g/\WCells w' g (lsS fs)/\Below w.heap.size w w'
theorem qhq:(Tryz.prog.info? 102).map (fun i=>(i.zero,i.size,i.bytes))=some (some (.agg #[.string ⟨#[]⟩,.int .i64 0,.int .i64 0]),3,32):=by kernel_rfl
theorem toLeaseS_any (a:Option Addr) (fs:List LsM) (cap:Nat) (w:World) (hr:LsRow w a fs) (hl:fs.length<=1048576) :
  Calls Tryz.prog 23 #[.slice a fs.length cap] w fun e w'=>qqj fs w e w':=by
 obtain ⟨i0,hi,hz0,hz1,hz2⟩:=info_parts qhq;have HR:Hid (LsRow w a fs):=hr;clear hr;go_enter Tryz.func23,Tryz.ntmps23;go_wp2_with (at_make;refine wpList_make_full _ rfl _ _ 41 rfl w.heap.size 102 i0 _ 3 Tryz.underlying41 hi hz0 hz1 .i64 .i64 _ _ fs.length rfl rfl (by omega) (by omega) ?b2 ?b3 ?b4 ?_)
 case b2=>rw [hz2];omega
 case b3=>unfold maxLen;omega
 case b4=>omega
 intro wm hownm hgrm;have hbm:Below w.heap.size w wm:=zB.grown hgrm zL (fun j hj=>by simp at hj)
 have hrow:WCells wm w.heap.size (lsS (List.replicate fs.length default)):=by
  have h:=qan hownm;have e:(madeCells #[.string ⟨#[]⟩,.int .i64 0,.int .i64 0] (fs.length*3)).toList=lsS (List.replicate fs.length default):=qhx qdm (by decide) #[.string ⟨#[]⟩,.int .i64 0,.int .i64 0] default rfl _;rw [e] at h;exact h
 clear hownm hgrm;go_wp2_with fail;go_loopw [4] (fun i wr=>∃ (k:Nat) (gs:List LsM),i = .int .i64 k/\k<=fs.length/\gs.length=fs.length/\gs.take k=fs.take k/\WCells wr w.heap.size (lsS gs)/\Below w.heap.size w wr) (fun i _=>fs.length - (intOf i).toNat)
 case atStart=>exact ⟨0,_,rfl,by omega,by simp,by simp,hrow,hbm⟩
 case round =>
  clear hrow hbm;obtain ⟨k,gs,rfl,hk,hgl,hgt,hw,hb⟩:=hrel
  by_cases hlt:k<fs.length
  ·obtain ⟨b,off,rfl,hbl,hc⟩:=LsRow.at HR.out (by omega)
   obtain ⟨d0,d1,d2⟩:=hc k hlt;rw [<-hb.cell (p:=⟨b,off+k*3,none⟩) hbl] at d0;rw [<-hb.cell (p:=⟨b,off+k*3+1,none⟩) hbl] at d1;rw [<-hb.cell (p:=⟨b,off+k*3+2,none⟩) hbl] at d2;obtain ⟨f,hfe⟩:∃ f,f=fs[k]:=⟨_,rfl⟩;rw [<-hfe] at d0 d1 d2;have k0:(0:Int)<=(k:Int):=by omega
   have k1:(k:Int)<(fs.length:Int):=by omega
   have HFE:Hid (f=fs[k]):=hfe;have HG:Hid (gs.length=fs.length/\gs.take k=fs.take k):=⟨hgl,hgt⟩;clear hc hfe hgl hgt;go_wp2_with fail;refine (toLease_any f _).mono ?_;rintro e w2 ⟨rfl,hb2⟩;have hw2:=hw.below hb2 hw.1;have hb3:Below w.heap.size w w2:=hb.trans (hb2.mono hb.size);clear hw hb hb2 d0 d1 d2;have hgk:k<gs.length:=by have:=HG.out.1;omega
   obtain ⟨c0,z0⟩:=hw2.2 (k*3) _ (flat_get qdm gs k hgk 0 (by omega));obtain ⟨c1,z1⟩:=hw2.2 (k*3+1) _ (flat_get qdm gs k hgk 1 (by omega));obtain ⟨c2,z2⟩:=hw2.2 (k*3+2) _ (flat_get qdm gs k hgk 2 (by omega));have HW:Hid (WCells w2 w.heap.size (lsS gs)):=hw2;clear hw2;have hset:=HW.out.setElem qdm k hgk f;have hbn:=qdx hb3 zL (k*3) (lsC f);have HS:Hid (WCells (setW w2 w.heap.size (k*3) (lsC f)) w.heap.size (lsS (gs.set k f))):=hset;have HBN:Hid (Below w.heap.size w (setW w2 w.heap.size (k*3) (lsC f))):=hbn;clear hset hbn;go_wp2_with fail;go_roundw
   case rel =>
    refine ⟨k+1,gs.set k f,by go_num,by omega,by rw [List.length_set];exact HG.out.1,?_,HS.out,HBN.out⟩;rw [List.take_succ_eq_append_getElem (by rw [List.length_set];exact hgk),List.take_succ_eq_append_getElem hlt,List.take_set_of_le zL,HG.out.2,List.getElem_set_self,HFE.out]
   case measure=>simp [intOf];omega
  ·have e:gs=fs:=by
    rw [List.take_of_length_le (by omega),List.take_of_length_le (by omega)] at hgt;exact hgt
   subst e;go_wp2_with fail;go_ret;exact ⟨_,rfl,zL,hw,hb⟩
theorem eqLease_same (f:LsM) (w:World) :
  Calls Tryz.prog 75 #[lsv f,lsv f] w fun e w'=>e = .returned (.bool true)/\Below w.heap.size w w':=by
 go_enter Tryz.func75,Tryz.ntmps75;go_wp2_with fail;go_ret;exact ⟨rfl,(zB.alloc zL _).alloc (by simp) _⟩
theorem eqLeaseS_same (a b:Option Addr) (fs:List LsM) (ca cb:Nat) (w:World) (ha:LsRow w a fs) (hb:LsRow w b fs) (hl:fs.length<=9000000) :
  Calls Tryz.prog 30 #[.slice a fs.length ca,.slice b fs.length cb] w fun e w'=>e = .returned (.bool true)/\Below w.heap.size w w':=by
 have HA:Hid (LsRow w a fs):=ha;have HB:Hid (LsRow w b fs):=hb;clear ha hb;go_enter Tryz.func30,Tryz.ntmps30;go_wp2_with fail;go_loopw [5] (fun i wr=>∃ (k:Nat),i = .int .i64 k/\k<=fs.length/\Below w.heap.size w wr) (fun i _=>fs.length - (intOf i).toNat)
 case atStart=>exact ⟨0,rfl,Nat.zero_le _,zB⟩
 case round =>
  obtain ⟨k,rfl,hk,hbl⟩:=hrel
  by_cases hlt:k<fs.length
  ·obtain ⟨b1,o1,rfl,l1,hc1⟩:=LsRow.at (HA.out.stays hbl) (by omega)
   obtain ⟨b2,o2,rfl,l2,hc2⟩:=LsRow.at (HB.out.stays hbl) (by omega);obtain ⟨d0,d1,d2⟩:=hc1 k hlt;obtain ⟨e0,e1,e2⟩:=hc2 k hlt;obtain ⟨f,hfe⟩:∃ f,f=fs[k]:=⟨_,rfl⟩;rw [<-hfe] at d0 d1 d2 e0 e1 e2;have HS:Hid (Below w.heap.size w wr):=hbl;have k0:(0:Int)<=(k:Int):=by omega
   have k1:(k:Int)<(fs.length:Int):=by omega
   clear hc1 hc2 hfe hbl;go_wp2_with fail
   go_region_held3 (fun w'=>w'.cell? ⟨b1,o1+k*3,none⟩=some (.string f.path)/\w'.cell? ⟨b1,o1+k*3+1,none⟩=some (.int .i64 f.who)/\w'.cell? ⟨b1,o1+k*3+2,none⟩=some (.int .i64 f.seen)/\w'.cell? ⟨b2,o2+k*3,none⟩=some (.string f.path)/\w'.cell? ⟨b2,o2+k*3+1,none⟩=some (.int .i64 f.who)/\w'.cell? ⟨b2,o2+k*3+2,none⟩=some (.int .i64 f.seen))
    (first | go_keep | (refine ⟨?_,?_,?_,?_,?_,?_⟩ <;> first | (rw [hb2.cell (by exact l1)];simp [*]) | (rw [hb2.cell (by exact l2)];simp [*])))
    ((go_at_call 75;refine (eqLease_same f _).mono ?_;rintro e w2 ⟨rfl,hb2⟩))
   all_goals go_wp2_with fail
   all_goals
    have hb3:Below w.heap.size w w2:=HS.out.trans ((Below.drew zB).trans (hb2.mono HS.out.size));exact ⟨⟨k+1,by go_num,by omega,hb3⟩,by simp [intOf];omega⟩
  ·have e:k=fs.length:=by omega
   subst e;go_wp2_with fail;go_ret;exact ⟨rfl,hbl⟩
theorem qbk {w w':World} {g:Nat} {row:Option Nat} {L:List Value} (h:WCells w g L) (hg:w.grownBy w' row) (hr:row ≠ some g):WCells w' g L:=by
 have hblk:=hg.block g h.1 (fun e=>hr e.symm);refine ⟨Nat.lt_of_lt_of_le h.1 hg.size,fun i v hv=>⟨?_,?_⟩⟩
 ·rw [World.cell?_of_block (w:=w) hblk];exact (h.2 i v hv).1
 ·rw [World.frozen?_of_block (w:=w) hblk];exact (h.2 i v hv).2
def FRw (w:World) (va:Option Addr) (X:List Value) (lo hi:Nat):Prop:=(va=none/\X=[])\/∃ g,va=some ⟨g,0,none⟩/\lo<=g/\g<hi/\WCells w g X
theorem FRw.crow {w:World} {va:Option Addr} {X:List Value} {lo hi:Nat} (h:FRw w va X lo hi):CRow w va X:=by
 rcases h with ⟨_,rfl⟩ | ⟨g,rfl,_,_,h⟩
 ·intro hp;simp at hp
 ·exact h.crow
theorem FRw.below {w w':World} {va:Option Addr} {X:List Value} {lo hi:Nat} (h:FRw w va X lo hi) (hb:Below w.heap.size w w'):FRw w' va X lo hi:=by
 rcases h with h | ⟨g,h1,h2,h3,h⟩
 ·exact .inl h
 ·exact .inr ⟨g,h1,h2,h3,h.grow hb⟩
theorem FRw.grown {w w':World} {va:Option Addr} {X:List Value} {lo hi:Nat} {row:Option Nat} (h:FRw w va X lo hi) (hg:w.grownBy w' row) (hr:∀ g,row=some g->g<lo\/hi<=g):FRw w' va X lo hi:=by
 rcases h with h | ⟨g,h1,h2,h3,h⟩
 ·exact .inl h
 ·exact .inr ⟨g,h1,h2,h3,qbk h hg (fun e=>by rcases hr g e with h | h <;> omega)⟩
theorem FRw.of_own {w:World} {B n c t sz:Nat} {va:Option Addr} {X:List Value} (h:w.ownsRow B t sz (.slice va n c) n X):FRw w va X B w.heap.size/\n<=c:=by
 have h':=h;rcases h.2 with ⟨h0,hX⟩ | ⟨g,cap,cur,he,hB,hcur,hn,_,_,_⟩
 ·simp only [Value.slice.injEq] at h0
  obtain ⟨rfl,h1,rfl⟩:=h0;refine ⟨.inl ⟨rfl,?_⟩,by omega⟩;have hl:=h'.1;rw [hX,Nat.zero_mul] at hl;exact List.eq_nil_of_length_eq_zero hl
 ·simp only [Value.slice.injEq] at he
  obtain ⟨rfl,_,rfl⟩:=he;exact ⟨.inr ⟨g,rfl,hB,(Array.getElem?_eq_some_iff.1 hcur).1,qan h'⟩,hn⟩
structure Mem (w0 w:World) (L:List (Nat × List Value)) (R:List (Option Addr × List Value × Nat × Nat)):Prop where
 cells:∀ p ∈ L,WCells w p.1 p.2
 rows:∀ r ∈ R,FRw w r.1 r.2.1 r.2.2.1 r.2.2.2
 low:Below w0.heap.size w0 w
theorem Mem.below {w0 w w':World} {L:List (Nat × List Value)} {R:List (Option Addr × List Value × Nat × Nat)} (M:Mem w0 w L R) (hb:Below w.heap.size w w'):Mem w0 w' L R:=
 ⟨fun p hp=>(M.cells p hp).grow hb,fun r hr=>(M.rows r hr).below hb,M.low.trans (hb.mono M.low.size)⟩
theorem Mem.alloc {w0 w:World} {L:List (Nat × List Value)} {R:List (Option Addr × List Value × Nat × Nat)} (M:Mem w0 w L R) (o:Obj):Mem w0 (w.alloc o) L R:=M.below (zB.alloc zL o)
theorem Mem.drew {w0 w:World} {L:List (Nat × List Value)} {R:List (Option Addr × List Value × Nat × Nat)} (M:Mem w0 w L R):Mem w0 w.drew L R:=⟨fun p hp=>M.cells p hp,fun r hr=>M.rows r hr,M.low.drew⟩
theorem Mem.box {w0 w:World} {L:List (Nat × List Value)} {R:List (Option Addr × List Value × Nat × Nat)} (M:Mem w0 w L R) (cs:Array Value) (t:TypeId):Mem w0 (w.alloc (.cells cs t)) ((w.heap.size,cs.toList)::L) R:=by
 refine ⟨fun p hp=>?_,(M.alloc _).rows,(M.alloc _).low⟩;rcases List.mem_cons.1 hp with rfl | h
 ·exact qac w cs t
 ·exact (M.alloc _).cells p h
theorem Mem.row {w0 w:World} {L:List (Nat × List Value)} {R:List (Option Addr × List Value × Nat × Nat)} (M:Mem w0 w L R) {va:Option Addr} {X:List Value} {lo hi:Nat} (h:FRw w va X lo hi):Mem w0 w L ((va,X,lo,hi)::R):=by
 refine ⟨M.cells,fun r hr=>?_,M.low⟩;rcases List.mem_cons.1 hr with rfl | h'
 ·exact h
 ·exact M.rows r h'
theorem Mem.less {w0 w:World} {L L':List (Nat × List Value)} {R R':List (Option Addr × List Value × Nat × Nat)} (M:Mem w0 w L R) (hL:∀ p ∈ L',p ∈ L) (hR:∀ r ∈ R',r ∈ R):Mem w0 w L' R':=⟨fun p hp=>M.cells p (hL p hp),fun r hr=>M.rows r (hR r hr),M.low⟩
theorem Mem.grown {w0 w w':World} {L:List (Nat × List Value)} {R:List (Option Addr × List Value × Nat × Nat)} {row:Option Nat} (M:Mem w0 w L R) (hg:w.grownBy w' row) (hL:∀ p ∈ L,∀ g,row=some g->g ≠ p.1) (hR:∀ r ∈ R,∀ g,row=some g->g<r.2.2.1\/r.2.2.2<=g) (h0:∀ g,row=some g->w0.heap.size<=g):Mem w0 w' L R:=
 ⟨fun p hp=>qbk (M.cells p hp) hg (fun e=>hL p hp _ e rfl),fun r hr=>(M.rows r hr).grown hg (hR r hr),M.low.grown hg M.low.size h0⟩
theorem Mem.cell {w0 w:World} {L:List (Nat × List Value)} {R:List (Option Addr × List Value × Nat × Nat)} (M:Mem w0 w L R) {g:Nat} {v:Value} (h:(g,[v]) ∈ L):w.cell? ⟨g,0,none⟩=some v:=((M.cells _ h).2 0 _ rfl).1
theorem Mem.lt {w0 w:World} {L:List (Nat × List Value)} {R:List (Option Addr × List Value × Nat × Nat)} (M:Mem w0 w L R) {g:Nat} {X:List Value} (h:(g,X) ∈ L):g<w.heap.size:=(M.cells _ h).1
theorem Mem.at0 {w0 w:World} {L:List (Nat × List Value)} {R:List (Option Addr × List Value × Nat × Nat)} {va:Option Addr} {X:List Value} {lo hi:Nat} (M:Mem w0 w L ((va,X,lo,hi)::R)):FRw w va X lo hi:=M.rows _ zM
theorem Mem.cell0 {w0 w:World} {L:List (Nat × List Value)} {R:List (Option Addr × List Value × Nat × Nat)} {g:Nat} {v:Value} (M:Mem w0 w ((g,[v])::L) R):w.cell? ⟨g,0,none⟩=some v:=M.cell zM
theorem Mem.lt0 {w0 w:World} {L:List (Nat × List Value)} {R:List (Option Addr × List Value × Nat × Nat)} {g:Nat} {X:List Value} (M:Mem w0 w ((g,X)::L) R):g<w.heap.size:=M.lt zM
theorem Mem.lt1 {w0 w:World} {L:List (Nat × List Value)} {R:List (Option Addr × List Value × Nat × Nat)} {p0:Nat × List Value} {g:Nat} {X:List Value} (M:Mem w0 w (p0::(g,X)::L) R):g<w.heap.size:=M.lt (List.mem_cons_of_mem _ zM)
theorem Mem.cell2 {w0 w:World} {L:List (Nat × List Value)} {R:List (Option Addr × List Value × Nat × Nat)} {p0:Nat × List Value} {p1:Nat × List Value} {g:Nat} {v:Value} (M:Mem w0 w (p0::p1::(g,[v])::L) R):w.cell? ⟨g,0,none⟩=some v:=M.cell (List.mem_cons_of_mem _ (List.mem_cons_of_mem _ zM))
structure Str where
 p:World->Prop
 lo:Nat
 hi:Nat
def Str.Loc (s:Str):Prop:=∀ W W' l h,s.p W->Turned W W' l h->(s.hi<=l\/h<=s.lo)->s.p W'
abbrev bxS (b:Nat) (X:List Value):Str:=⟨fun W=>WCells W b X,b,b+1⟩
abbrev rwS (va:Option Addr) (X:List Value) (lo hi:Nat):Str:=⟨fun W=>FRw W va X lo hi,lo,hi⟩
theorem bxS.loc (b:Nat) (X:List Value):(bxS b X).Loc:=fun _ _ _ _ h t hd=>h.turned t (by rcases hd with h | h <;> (dsimp only [bxS] at h;omega))
theorem rwS.loc (va:Option Addr) (X:List Value) (lo hi:Nat):(rwS va X lo hi).Loc:=fun _ _ l h hp t hd=>by
 rcases hp with e | ⟨g,h1,h2,h3,h4⟩
 ·exact .inl e
 ·exact .inr ⟨g,h1,h2,h3,h4.turned t (by rcases hd with e | e <;> (dsimp only [rwS] at e;omega))⟩
structure SL (w0 W:World) (S:List Str):Prop where
 bel:Below w0.heap.size w0 W
 is:∀ s ∈ S,s.p W/\s.Loc/\w0.heap.size<=s.lo/\s.hi<=W.heap.size
 apart:S.Pairwise fun s t=>s.hi<=t.lo\/t.hi<=s.lo
section
variable {w0 W W':World} {S:List Str} {s t:Str}
theorem SL.tail (h:SL w0 W (s::S)):SL w0 W S:=⟨h.bel,fun x hx=>h.is x (List.mem_cons_of_mem _ hx),(List.pairwise_cons.1 h.apart).2⟩
theorem SL.start (w:World):SL w w []:=⟨zB,fun _ h=>(by cases h),.nil⟩
theorem SL.below (h:SL w0 W S) (hb:Below W.heap.size W W'):SL w0 W' S:=
 ⟨h.bel.trans (hb.mono h.bel.size),fun s hs=>⟨(h.is s hs).2.1 W W' W'.heap.size W'.heap.size (h.is s hs).1 (Turned.of_below hb _ _) (.inl (Nat.le_trans (h.is s hs).2.2.2 hb.size)),(h.is s hs).2.1,(h.is s hs).2.2.1,Nat.le_trans (h.is s hs).2.2.2 hb.size⟩,h.apart⟩
theorem SL.drew (h:SL w0 W S):SL w0 W.drew S:=h.below zD
theorem SL.add (h:SL w0 W S) (hb:Below W.heap.size W W') (hp:s.p W') (hl:s.Loc) (h1:W.heap.size<=s.lo) (h2:s.hi<=W'.heap.size):SL w0 W' (s::S):=by
 have k:=h.below hb;refine ⟨k.bel,fun x hx=>?_,List.pairwise_cons.2 ⟨fun x hx=>.inr (Nat.le_trans (h.is x hx).2.2.2 h1),h.apart⟩⟩;rcases List.mem_cons.1 hx with rfl | hx
 ·exact ⟨hp,hl,Nat.le_trans h.bel.size h1,h2⟩
 ·exact k.is x hx
theorem SL.new (h:SL w0 W S) (cs:Array Value) (ty:TypeId):SL w0 (W.alloc (.cells cs ty)) (bxS W.heap.size cs.toList::S):=
 h.add (zB.alloc zL _) (qac W cs ty) (bxS.loc _ _) zL (by simp)
theorem SL.at (h:SL w0 W S) (i:Nat) (hs:S[i]?=some s):s.p W:=(h.is _ (List.mem_of_getElem? hs)).1
theorem SL.bx (h:SL w0 W S) (i:Nat) {b:Nat} {X:List Value} (hs:S[i]?=some (bxS b X)) (j:Nat) (v:Value) (hv:X[j]?=some v):W.cell? ⟨b,j,none⟩=some v/\W.frozen? ⟨b,j,none⟩=false:=(show WCells W b X from h.at i hs).2 j v hv
theorem SL.turn (h:SL w0 W S) (i:Nat) (hs:S[i]?=some s) (tu:Turned W W' s.lo s.hi) {q:World->Prop} (hq:q W') (hl:Str.Loc ⟨q,s.lo,s.hi⟩):SL w0 W' (S.set i ⟨q,s.lo,s.hi⟩):=by
 have hm:=h.is s (List.mem_of_getElem? hs);obtain ⟨hi,hie⟩:=List.getElem?_eq_some_iff.1 hs
 have hap:∀ j (hj:j<S.length),j ≠ i->S[j].hi<=s.lo\/s.hi<=S[j].lo:=fun j hj hne=>by
  have:=List.pairwise_iff_getElem.1 h.apart;rcases Nat.lt_or_gt_of_ne hne with e | e
  ·have:=this j i hj hi e;rw [hie] at this;exact this
  ·have:=this i j hi hj e;rw [hie] at this;exact this.symm
 refine ⟨⟨h.bel.os ▸ tu.base.os ▸ rfl,?_,?_,?_,?_⟩,fun x hx=>?_,?_⟩
 ·exact tu.base.tape.trans h.bel.tape
 ·exact tu.base.output.trans h.bel.output
 ·exact Nat.le_trans h.bel.size tu.base.size
 ·intro k hk
  exact (tu.block k (Nat.lt_of_lt_of_le hk h.bel.size) (by omega)).trans (h.bel.block k hk)
 ·obtain ⟨j,hj,rfl⟩:=List.getElem_of_mem hx
  rw [List.length_set] at hj
  by_cases e:j=i
  ·subst e
   rw [List.getElem_set_self];exact ⟨hq,hl,hm.2.2.1,Nat.le_trans hm.2.2.2 tu.base.size⟩
  ·rw [List.getElem_set_ne (Ne.symm e)]
   have k:=h.is _ (List.getElem_mem hj);exact ⟨k.2.1 W W' _ _ k.1 tu (hap j hj e),k.2.1,k.2.2.1,Nat.le_trans k.2.2.2 tu.base.size⟩
 ·rw [List.pairwise_iff_getElem] at *
  intro a b ha hb hab;rw [List.length_set] at ha hb;have:=List.pairwise_iff_getElem.1 h.apart a b ha hb hab;rw [List.getElem_set,List.getElem_set];split <;> split
  ·omega
  ·rename_i e1 e2;subst e1;rw [hie] at this;exact this
  ·rename_i e1 e2;subst e2;rw [hie] at this;exact this
  ·exact this
theorem SL.put (h:SL w0 W S) (i:Nat) {b:Nat} {X:List Value} (hs:S[i]?=some (bxS b X)) (j:Nat) (v:Value) (hj:j<X.length):SL w0 (W.setCell ⟨b,j,none⟩ v) (S.set i (bxS b (X.set j v))):=
 h.turn i hs (Turned.of_grown (qam W b j v) zL (Nat.lt_succ_self _)) ((show WCells W b X from h.at i hs).set j v hj) (bxS.loc _ _)
theorem SL.swap (h:SL w0 W (s::t::S)):SL w0 W (t::s::S):=by
 refine ⟨h.bel,fun x hx=>h.is x (by simp only [List.mem_cons] at hx ⊢;rcases hx with h | h | h <;> simp [h]),?_⟩;have h1:=List.pairwise_cons.1 h.apart;have h2:=List.pairwise_cons.1 h1.2
 exact List.pairwise_cons.2 ⟨fun x hx=>by
  rcases List.mem_cons.1 hx with rfl | hx
  ·exact (h1.1 t zM).symm
  ·exact h2.1 x hx,List.pairwise_cons.2 ⟨fun x hx=>h1.1 x (List.mem_cons_of_mem _ hx),h2.2⟩⟩
theorem SL.grown (h:SL w0 W S) {row:Option Nat} (hg:W.grownBy W' row) (hr:∀ q,row=some q->w0.heap.size<=q/\∀ s ∈ S,s.hi<=q\/q<s.lo):SL w0 W' S:=by
 cases row with
 | none=>exact h.below ⟨hg.os,hg.tape,hg.output,hg.size,fun k hk=>hg.block k hk (by simp)⟩
 | some q =>
  have t:=Turned.of_grown hg (Nat.le_refl q) (Nat.lt_succ_self q);refine ⟨h.bel.grown hg h.bel.size fun k e=>by cases e;exact (hr q rfl).1,fun s hs=>⟨(h.is s hs).2.1 W W' _ _ (h.is s hs).1 t (by rcases (hr q rfl).2 s hs with e | e <;> omega),(h.is s hs).2.1,(h.is s hs).2.2.1,Nat.le_trans (h.is s hs).2.2.2 hg.size⟩,h.apart⟩
end
end
end Go.Proofs.YtackbhpgdohimaaGreatDoor
namespace Go.Proofs.YtackbhpgdohimaaGreatDoor.W
def dgF:Nat->Nat->List UInt8
 | 0,_=>[]
 | f+1,n=>if n=0 then [] else dgF f (n / 10)++[UInt8.ofNat (48+n % 10)]
def dg (n:Nat):List UInt8:=dgF n n
theorem qlk:∀ (f g n:Nat),n<=f->n<=g->dgF f n=dgF g n
 | 0,0,_,_,_=>rfl
 | 0,g+1,n,h,_=>by have:n=0:=(by omega);subst this;simp [dgF]
 | f+1,0,n,_,h=>by have:n=0:=(by omega);subst this;simp [dgF]
 | f+1,g+1,n,h1,h2=>by
  unfold dgF
  by_cases h:n=0
  ·rw [if_pos h,if_pos h]
  ·rw [if_neg h,if_neg h,qlk f g (n / 10) (by omega) (by omega)]
theorem dg_zero:dg 0=[]:=rfl
theorem dg_step (n:Nat) (h:0<n):dg n=dg (n / 10)++[UInt8.ofNat (48+n % 10)]:=by
 unfold dg
 match n,h with
 | k+1,_=>rw [dgF,if_neg (by omega),qlk k ((k+1) / 10) ((k+1) / 10) (by omega) (by omega)]
def decS (n:Nat):List UInt8:=if n=0 then [48] else dg n
theorem dg_len:∀ (k n:Nat),n<10 ^ k->(dg n).length<=k
 | 0,n,h=>by have:n=0:=(by simpa using h);subst this;simp [dg_zero]
 | k+1,n,h=>by
  by_cases hn:n=0
  ·subst hn;simp [dg_zero]
  ·rw [dg_step n (by omega)]
   have:=dg_len k (n / 10) (by rw [Nat.pow_succ] at h;omega);simp;omega
end Go.Proofs.YtackbhpgdohimaaGreatDoor.W
