/- Texts of ours, laid one behind the other: TRowsG, TIntsA, TNestA, TGenA, TTreA, TSchZ, TWords, TVarL, TSpnA, TPathM, TTreM, TUnR, TSumM, THexM. -/
import Derived.Test.YteaieagkjepgiaaGreatDoorPfT1
import Derived.OwnWalk
import Derived.Deep.DrawnRows
import Derived.Deep.RegionHeld3
import Derived.BigQuiet
import Derived.PlainAid
set_option linter.unusedVariables false
set_option linter.unusedSimpArgs false
/- . -/
namespace Go.Proofs.YteaieagkjepgiaaGreatDoorT
set_option maxRecDepth 100000
open Go.RowKit
theorem flat_len {α:Type} {enc:α->List Value} {sz:Nat} (hsz:∀ x,(enc x).length=sz) (xs:List α):(xs.flatMap enc).length=xs.length*sz:=by
 induction xs with
 | nil=>simp
 | cons x xs ih=>simp only [List.flatMap_cons,List.length_append,List.length_cons,ih,hsz,Nat.add_mul];omega
theorem flat_get {α:Type} {enc:α->List Value} {sz:Nat} (hsz:∀ x,(enc x).length=sz) (xs:List α) (j:Nat) (h:j<xs.length) (i:Nat) (hi:i<sz):(xs.flatMap enc)[j*sz+i]?=(enc xs[j])[i]?:=by
 induction xs generalizing j with
 | nil=>simp at h
 | cons x xs ih =>
  rw [List.flatMap_cons]
  cases j with
  | zero =>
   rw [List.getElem?_append_left (by rw [hsz];omega)]
   simp
  | succ j =>
   rw [List.getElem?_append_right (by rw [hsz,Nat.add_mul];omega),hsz]
   have:=ih j (by simpa using h)
   rw [show (j+1)*sz+i - sz=j*sz+i by rw [Nat.add_mul];omega]
   simpa using this
def CRow (w:World) (a:Option Addr) (L:List Value):Prop:=
 0<L.length->∃ b off,a=some ⟨b,off,none⟩/\b<w.heap.size/\∀ i v,L[i]?=some v->w.cell? ⟨b,off+i,none⟩=some v
theorem CRow.stays {w w':World} {a:Option Addr} {L:List Value} (h:CRow w a L) (hb:Below w.heap.size w w'):CRow w' a L:=by
 intro hp
 obtain ⟨b,off,e,hlt,hc⟩:=h hp
 exact ⟨b,off,e,Nat.lt_of_lt_of_le hlt hb.size,fun i v hv=>by rw [hb.cell (p:=⟨b,off+i,none⟩) hlt];exact hc i v hv⟩
def WCells (w:World) (g:Nat) (L:List Value):Prop:=
 g<w.heap.size/\∀ i v,L[i]?=some v->w.cell? ⟨g,i,none⟩=some v/\w.frozen? ⟨g,i,none⟩=false
theorem WCells.crow {w:World} {g:Nat} {L:List Value} (h:WCells w g L):CRow w (some ⟨g,0,none⟩) L:=fun _=>⟨g,0,rfl,h.1,fun i v hv=>by rw [Nat.zero_add];exact (h.2 i v hv).1⟩
theorem WCells.below {w w':World} {g B:Nat} {L:List Value} (h:WCells w g L) (hb:Below B w w') (hg:g<B):WCells w' g L:=
 ⟨Nat.lt_of_lt_of_le h.1 hb.size,fun i v hv=>⟨(hb.cell (p:=⟨g,i,none⟩) hg).trans (h.2 i v hv).1,(hb.frozen (p:=⟨g,i,none⟩) hg).trans (h.2 i v hv).2⟩⟩
theorem WCells.set {w:World} {g:Nat} {L:List Value} (h:WCells w g L) (i:Nat) (x:Value) (hi:i<L.length):WCells (w.setCell ⟨g,i,none⟩ x) g (L.set i x):=by
 refine ⟨by have:=h.1;simpa [World.setCell] using this,fun j v hv=>?_⟩
 have hj:j<L.length:=by
  have:=(List.getElem?_eq_some_iff.1 hv).1
  simpa using this
 have hold:=h.2 j L[j] (List.getElem?_eq_getElem hj)
 refine ⟨?_,(World.frozen?_setCell _ _ _ _).trans hold.2⟩
 by_cases e:j=i
 ·subst e
  rw [World.cell?_setCell_same _ _ _ hold.1]
  rw [List.getElem?_set_self hi] at hv
  exact hv
 ·rw [World.cell?_setCell_other _ _ _ _ (by first | (simp;done) | (simp;omega)),hold.1]
  rw [List.getElem?_set_ne (Ne.symm e),List.getElem?_eq_getElem hj] at hv
  exact hv
theorem own_wcells {w:World} {B g n cap t sz:Nat} {L:List Value} (h:w.ownsRow B t sz (.slice (some ⟨g,0,none⟩) n cap) n L):WCells w g L:=by
 have hc:=h.cells (g:=g) rfl
 have hlt:=h.lt g rfl
 obtain ⟨_,⟨h0,_⟩ | ⟨g',cap',cur,he,hB,hcur,_,_,_,_⟩⟩:=h
 ·cases h0
 ·have eg:g'=g:=by simp at he;exact he.1.symm
  subst eg
  refine ⟨hlt.2,fun j v hj=>⟨?_,?_⟩⟩
  ·have:=hc j v hj
   have e:(⟨g',0,none⟩:Addr).add j=⟨g',j,none⟩:=by cases j <;> simp [Addr.add]
   rw [e] at this
   exact this
  ·unfold World.frozen?
   rw [hcur];simp
def setL (L:List Value) (off:Nat):List Value->List Value
 | []=>L
 | v::vs=>setL (L.set off v) (off+1) vs
def setW (w:World) (g off:Nat):List Value->World
 | []=>w
 | v::vs=>setW (w.setCell ⟨g,off,none⟩ v) g (off+1) vs
theorem setL_cons (c:Value) (L:List Value) (off:Nat) (vs:List Value):setL (c::L) (off+1) vs=c::setL L off vs:=by
 induction vs generalizing L off with
 | nil=>rfl
 | cons v vs ih=>simp only [setL,List.set_cons_succ];exact ih _ _
theorem setL_app (A L:List Value) (off:Nat) (vs:List Value):setL (A++L) (A.length+off) vs=A++setL L off vs:=by
 induction A with
 | nil=>simp
 | cons a A ih=>rw [List.cons_append,List.length_cons,show A.length+1+off=(A.length+off)+1 by omega,setL_cons,ih];rfl
theorem setL_head (A R B:List Value) (h:A.length=B.length):setL (A++R) 0 B=B++R:=by
 induction B generalizing A with
 | nil=>simp at h;subst h;rfl
 | cons b B ih =>
  cases A with
  | nil=>simp at h
  | cons a A =>
   simp only [List.cons_append,setL,List.set_cons_zero,setL_cons]
   rw [ih A (by simpa using h)]
theorem flat_setL {α:Type} {enc:α->List Value} {sz:Nat} (hsz:∀ x,(enc x).length=sz) (xs:List α) (j:Nat) (h:j<xs.length) (y:α):setL (xs.flatMap enc) (j*sz) (enc y)=(xs.set j y).flatMap enc:=by
 induction xs generalizing j with
 | nil=>simp at h
 | cons x xs ih =>
  cases j with
  | zero =>
   simp only [Nat.zero_mul,List.flatMap_cons,List.set_cons_zero]
   exact setL_head _ _ _ (by rw [hsz,hsz])
  | succ j =>
   simp only [List.flatMap_cons,List.set_cons_succ]
   rw [show (j+1)*sz=(enc x).length+j*sz by rw [hsz,Nat.add_mul];omega,setL_app,ih j (by simpa using h)]
theorem WCells.setW {w:World} {g:Nat} {L:List Value} (h:WCells w g L) (off:Nat) (vs:List Value) (hl:off+vs.length<=L.length):WCells (setW w g off vs) g (setL L off vs):=by
 induction vs generalizing w L off with
 | nil=>exact h
 | cons v vs ih =>
  simp only [List.length_cons] at hl
  exact ih (h.set off v (by omega)) (off+1) (by rw [List.length_set];omega)
theorem WCells.setElem {α:Type} {enc:α->List Value} {sz:Nat} (hsz:∀ x,(enc x).length=sz) {w:World} {g:Nat} {xs:List α} (h:WCells w g (xs.flatMap enc)) (j:Nat) (hj:j<xs.length) (y:α) :
  WCells (Go.Proofs.YteaieagkjepgiaaGreatDoorT.setW w g (j*sz) (enc y)) g ((xs.set j y).flatMap enc):=by
 have hl:j*sz+(enc y).length<=(xs.flatMap enc).length:=by
  rw [hsz,flat_len hsz]
  have:=Nat.mul_le_mul_right sz (show j+1<=xs.length by omega)
  rw [Nat.add_mul] at this;omega
 have:=h.setW (j*sz) (enc y) hl
 rwa [flat_setL hsz xs j hj y] at this
theorem below_setW {B g:Nat} {a w:World} (h:Below B a w) (hg:B<=g) (off:Nat) (vs:List Value):Below B a (setW w g off vs):=by
 induction vs generalizing w off with
 | nil=>exact h
 | cons v vs ih=>exact ih (h.setCell (p:=⟨g,off,none⟩) hg v) _
theorem made_flat {α:Type} {enc:α->List Value} {sz:Nat} (hsz:∀ x,(enc x).length=sz) (hp:0<sz) (z:Array Value) (d:α) (hz:z.toList=enc d) (n:Nat):(madeCells z (n*sz)).toList=(List.replicate n d).flatMap enc:=by
 have hzs:z.size=sz:=by rw [<-Array.length_toList,hz,hsz]
 apply List.ext_getElem?
 intro i
 by_cases hi:i<n*sz
 ·have hq:i / sz<n:=Nat.div_lt_of_lt_mul (by rwa [Nat.mul_comm] at hi)
  have hr:=Nat.mod_lt i hp
  have e:i=i / sz*sz+i % sz:=by rw [Nat.mul_comm];exact (Nat.div_add_mod i sz).symm
  have l1:=flat_get hsz (List.replicate n d) (i / sz) (by simpa using hq) (i % sz) hr
  rw [<-e] at l1
  rw [l1,List.getElem_replicate,<-hz]
  unfold madeCells
  have h3:i % sz<z.size:=by omega
  simp [hi,hzs]
  rw [getElem!_pos z (i % sz) h3,Array.getElem?_eq_getElem h3]
 ·rw [List.getElem?_eq_none (by rw [Array.length_toList,size_madeCells];omega),List.getElem?_eq_none (by rw [flat_len hsz];simp;omega)]
theorem wcells_new (w:World) (cs:Array Value) (t:TypeId):WCells (w.alloc (.cells cs t)) w.heap.size cs.toList:=by
 refine ⟨by simp,fun i v hv=>⟨?_,?_⟩⟩
 ·rw [World.cell?_alloc_new];simpa using hv
 ·unfold World.frozen?
  rw [heap_alloc_new];simp
theorem WCells.alloc {w:World} {g:Nat} {L:List Value} (h:WCells w g L) (o:Obj):WCells (w.alloc o) g L:=h.below ((Below.refl _ _).alloc (Nat.le_refl _) o) h.1
theorem WCells.grow {w w':World} {g:Nat} {L:List Value} (h:WCells w g L) (hb:Below w.heap.size w w'):WCells w' g L:=h.below hb h.1
theorem WCells.other {w:World} {g:Nat} {L:List Value} (h:WCells w g L) (p:Addr) (x:Value) (hp:g ≠ p.block):WCells (w.setCell p x) g L:=by
 refine ⟨by have:=h.1;simpa [World.setCell] using this,fun j v hv=>?_⟩
 have hold:=h.2 j v hv
 refine ⟨?_,(World.frozen?_setCell _ _ _ _).trans hold.2⟩
 rw [<-hold.1]
 exact World.cell?_of_block (Below.heap_setCell w p x g hp)
structure Shut (p:Prop):Prop where
 out:p
end Go.Proofs.YteaieagkjepgiaaGreatDoorT
/- . -/
namespace Go.Proofs.YteaieagkjepgiaaGreatDoorT
set_option maxRecDepth 100000
open Go.RowKit
attribute [local go_sem ↓] Go.wp_at_zero Go.wp_at_succ
def ics (xs:List Int):List Value:=xs.map fun x=>.int .i64 x
theorem ics_len (xs:List Int):(ics xs).length=xs.length:=by simp [ics]
theorem ics_get (xs:List Int) (j:Nat) (h:j<xs.length):(ics xs)[j]?=some (.int .i64 (xs.getD j 0)):=by simp [ics,List.getD,h]
theorem ics_set (xs:List Int) (j:Nat) (x:Int):(ics xs).set j (.int .i64 x)=ics (xs.set j x):=by simp [ics,List.map_set]
theorem crow_int {w:World} {a:Option Addr} {xs:List Int} (h:CRow w a (ics xs)) (hp:0<xs.length):∃ b off,a=some ⟨b,off,none⟩/\b<w.heap.size/\∀ j,j<xs.length->w.cell? ⟨b,off+j,none⟩=some (.int .i64 (xs.getD j 0)):=by
 obtain ⟨b,off,e,hb,hc⟩:=h (by rw [ics_len];exact hp)
 exact ⟨b,off,e,hb,fun j hj=>hc j _ (ics_get xs j hj)⟩
theorem infoIntG:(Tw.prog.info? 3).map (fun i=>(i.zero,i.size,i.bytes))=some (some (.int .i64 0),1,8):=by kernel_rfl
def marksI (k n:Nat):List Int:=(List.range n).map fun j=>((k+j:Nat):Int)
theorem marksI_len (k n:Nat):(marksI k n).length=n:=by simp [marksI]
theorem gb_set' (w:World) (g i:Nat) (v:Value):w.grownBy (w.setCell ⟨g,i,none⟩ v) (some g):=
 ⟨rfl,rfl,rfl,by simp [World.setCell],fun k _ hk=>Below.heap_setCell w ⟨g,i,none⟩ v k (fun e=>hk (by rw [e]))⟩
end Go.Proofs.YteaieagkjepgiaaGreatDoorT
/- . -/
namespace Go.Proofs.YteaieagkjepgiaaGreatDoorT
set_option maxRecDepth 100000
open Go.RowKit
structure Turned (w w':World) (lo hi:Nat):Prop where
 base:Below 0 w w'
 block:∀ k,k<w.heap.size->(k<lo\/hi<=k)->w'.heap[k]?=w.heap[k]?
theorem Turned.refl (w:World) (lo hi:Nat):Turned w w lo hi:=⟨Below.refl _ _,fun _ _ _=>rfl⟩
theorem Turned.trans {a b c:World} {lo hi:Nat} (h:Turned a b lo hi) (k:Turned b c lo hi):Turned a c lo hi:=
 ⟨h.base.trans k.base,fun i hi' ho=>(k.block i (Nat.lt_of_lt_of_le hi' h.base.size) ho).trans (h.block i hi' ho)⟩
theorem Turned.of_below {w w':World} (h:Below w.heap.size w w') (lo hi:Nat):Turned w w' lo hi:=⟨h.mono (Nat.zero_le _),fun k hk _=>h.block k hk⟩
theorem Turned.of_grown {w w':World} {g lo hi:Nat} (h:w.grownBy w' (some g)) (h1:lo<=g) (h2:g<hi):Turned w w' lo hi:=
 ⟨⟨h.os,h.tape,h.output,h.size,fun k hk=>by omega⟩,fun k hk ho=>h.block k hk (by intro e;cases e;omega)⟩
theorem Turned.below {w w':World} {lo hi B:Nat} (h:Turned w w' lo hi) (h1:B<=lo) (h2:B<=w.heap.size):Below B w w':=
 ⟨h.base.os,h.base.tape,h.base.output,h.base.size,fun k hk=>h.block k (by omega) (.inl (by omega))⟩
theorem Turned.size {w w':World} {lo hi:Nat} (h:Turned w w' lo hi):w.heap.size<=w'.heap.size:=h.base.size
def RRow (w:World) (a:Option Addr) (L:List Value) (lo hi:Nat):Prop:=
 0<L.length->∃ b off,a=some ⟨b,off,none⟩/\lo<=b/\b<hi/\b<w.heap.size/\∀ i v,L[i]?=some v->w.cell? ⟨b,off+i,none⟩=some v
theorem RRow.crow {w:World} {a:Option Addr} {L:List Value} {lo hi:Nat} (h:RRow w a L lo hi):CRow w a L:=fun hp=>by
 obtain ⟨b,off,e,_,_,h3,h4⟩:=h hp
 exact ⟨b,off,e,h3,h4⟩
theorem RRow.turned {w w':World} {a:Option Addr} {L:List Value} {lo hi lo' hi':Nat} (h:RRow w a L lo hi) (t:Turned w w' lo' hi') (hd:hi<=lo'\/hi'<=lo):RRow w' a L lo hi:=fun hp=>by
 obtain ⟨b,off,e,h1,h2,h3,h4⟩:=h hp
 exact ⟨b,off,e,h1,h2,Nat.lt_of_lt_of_le h3 t.size,fun i v hv=>(World.cell?_of_block (a:=⟨b,off+i,none⟩) (t.block b h3 (by omega))).trans (h4 i v hv)⟩
theorem RRow.below {w w':World} {a:Option Addr} {L:List Value} {lo hi:Nat} (h:RRow w a L lo hi) (hb:Below w.heap.size w w'):RRow w' a L lo hi:=fun hp=>by
 obtain ⟨b,off,e,h1,h2,h3,h4⟩:=h hp
 exact ⟨b,off,e,h1,h2,Nat.lt_of_lt_of_le h3 hb.size,fun i v hv=>(hb.cell (p:=⟨b,off+i,none⟩) h3).trans (h4 i v hv)⟩
theorem RRow.of_wcells {w:World} {g lo hi:Nat} {L:List Value} (h:WCells w g L) (h1:lo<=g) (h2:g<hi):RRow w (some ⟨g,0,none⟩) L lo hi:=fun _=>⟨g,0,rfl,h1,h2,h.1,fun i v hv=>by rw [Nat.zero_add];exact (h.2 i v hv).1⟩
theorem WCells.turned {w w':World} {g lo hi:Nat} {L:List Value} (h:WCells w g L) (t:Turned w w' lo hi) (hd:g<lo\/hi<=g):WCells w' g L:=
 ⟨Nat.lt_of_lt_of_le h.1 t.size,fun i v hv=>⟨(World.cell?_of_block (a:=⟨g,i,none⟩) (t.block g h.1 hd)).trans (h.2 i v hv).1,(World.frozen?_of_block (a:=⟨g,i,none⟩) (t.block g h.1 hd)).trans (h.2 i v hv).2⟩⟩
theorem WCells.apart {w w':World} {g q:Nat} {L:List Value} (h:WCells w g L) (t:w.grownBy w' (some q)) (hd:g ≠ q):WCells w' g L:=
 h.turned (Turned.of_grown (lo:=q) (hi:=q+1) t (Nat.le_refl _) (by omega)) (by omega)
structure SR where
 loc:Option Addr
 row:List Int
 cap:Nat
instance:Inhabited SR:=⟨⟨none,[],0⟩⟩
def srv (s:SR):Value:=.slice s.loc s.row.length s.cap
def svs (ss:List SR):List Value:=ss.map srv
def rws (ss:List SR):List (List Int):=ss.map (·.row)
theorem svs_len (ss:List SR):(svs ss).length=ss.length:=by simp [svs]
theorem rws_len (ss:List SR):(rws ss).length=ss.length:=by simp [rws]
theorem svs_get (ss:List SR) (i:Nat) (h:i<ss.length):(svs ss)[i]?=some (srv ss[i]):=by simp [svs,h]
theorem rws_snoc (ss:List SR) (s:SR):rws (ss++[s])=rws ss++[s.row]:=by simp [rws]
def MR (w:World) (a:Option Addr) (ss:List SR) (lo hi:Nat):Prop:=RRow w a (svs ss) lo hi/\∀ s ∈ ss,RRow w s.loc (ics s.row) lo hi
theorem MR.turned {w w':World} {a:Option Addr} {ss:List SR} {lo hi lo' hi':Nat} (h:MR w a ss lo hi) (t:Turned w w' lo' hi') (hd:hi<=lo'\/hi'<=lo):MR w' a ss lo hi:=⟨h.1.turned t hd,fun s hs=>(h.2 s hs).turned t hd⟩
theorem MR.below {w w':World} {a:Option Addr} {ss:List SR} {lo hi:Nat} (h:MR w a ss lo hi) (hb:Below w.heap.size w w'):MR w' a ss lo hi:=⟨h.1.below hb,fun s hs=>(h.2 s hs).below hb⟩
theorem MR.nil (w:World) (a:Option Addr) (lo hi:Nat):MR w a [] lo hi:=⟨fun h=>by simp [svs] at h,by simp⟩
theorem MR.at {w:World} {a:Option Addr} {ss:List SR} {lo hi:Nat} (h:MR w a ss lo hi) (hp:0<ss.length):∃ b off,a=some ⟨b,off,none⟩/\b<w.heap.size/\∀ i (hi:i<ss.length),w.cell? ⟨b,off+i,none⟩=some (srv ss[i]):=by
 obtain ⟨b,off,e,_,_,h3,h4⟩:=h.1 (by rw [svs_len];exact hp)
 exact ⟨b,off,e,h3,fun i hi=>h4 i _ (svs_get ss i hi)⟩
structure MW (w:World) (g:Nat) (ss:List SR) (lo hi:Nat):Prop where
 out:WCells w g (svs ss)
 glo:lo<=g
 ghi:g<hi
 rows:∀ s ∈ ss,∃ b,s.loc=some ⟨b,0,none⟩/\lo<=b/\b<hi/\b ≠ g/\WCells w b (ics s.row)/\s.row.length<=s.cap
 apart:(ss.map SR.loc).Nodup
theorem MW.mr {w:World} {g:Nat} {ss:List SR} {lo hi:Nat} (h:MW w g ss lo hi):MR w (some ⟨g,0,none⟩) ss lo hi:=
 ⟨RRow.of_wcells h.out h.glo h.ghi,fun s hs=>by obtain ⟨b,e,h1,h2,_,h3,_⟩:=h.rows s hs;rw [e];exact RRow.of_wcells h3 h1 h2⟩
theorem MW.turned {w w':World} {g:Nat} {ss:List SR} {lo hi lo' hi':Nat} (h:MW w g ss lo hi) (t:Turned w w' lo' hi') (hd:hi<=lo'\/hi'<=lo):MW w' g ss lo hi:=
 ⟨h.out.turned t (by have:=h.glo;have:=h.ghi;omega),h.glo,h.ghi,fun s hs=>by
  obtain ⟨b,e,h1,h2,h3,h4,h5⟩:=h.rows s hs
  exact ⟨b,e,h1,h2,h3,h4.turned t (by omega),h5⟩,h.apart⟩
theorem MW.below {w w':World} {g:Nat} {ss:List SR} {lo hi:Nat} (h:MW w g ss lo hi) (hb:Below w.heap.size w w'):MW w' g ss lo hi:=
 ⟨h.out.below hb h.out.1,h.glo,h.ghi,fun s hs=>by
  obtain ⟨b,e,h1,h2,h3,h4,h5⟩:=h.rows s hs
  exact ⟨b,e,h1,h2,h3,h4.below hb h4.1,h5⟩,h.apart⟩
theorem MW.wide {w:World} {g:Nat} {ss:List SR} {lo hi lo' hi':Nat} (h:MW w g ss lo hi) (h1:lo'<=lo) (h2:hi<=hi'):MW w g ss lo' hi':=
 ⟨h.out,Nat.le_trans h1 h.glo,Nat.lt_of_lt_of_le h.ghi h2,fun s hs=>by
  obtain ⟨b,e,q1,q2,q3,q4,q5⟩:=h.rows s hs
  exact ⟨b,e,by omega,by omega,q3,q4,q5⟩,h.apart⟩
def MAns (w:World) (v:Value) (X:List (List Int)) (lo hi:Nat):Prop:=
 ∃ (a:Option Addr) (cap:Nat) (ss:List SR),v = .slice a ss.length cap/\rws ss=X/\ss.length<=cap/\(ss=[]\/∃ g,a=some ⟨g,0,none⟩/\MW w g ss lo hi)
theorem MAns.empty (w:World) (a:Option Addr) (cap lo hi:Nat):MAns w (.slice a 0 cap) [] lo hi:=⟨a,cap,[],rfl,rfl,Nat.zero_le _,.inl rfl⟩
end Go.Proofs.YteaieagkjepgiaaGreatDoorT
/- . -/
namespace Go.Proofs.YteaieagkjepgiaaGreatDoorT
set_option maxRecDepth 100000
open Go.RowKit
structure NK (R:Type) where
 enc:R->List Value
 sz:Nat
 len:∀ r,(enc r).length=sz
 loc:R->Option Addr
 inn:R->List Value
def NK.cells {R:Type} (K:NK R) (rs:List R):List Value:=rs.flatMap K.enc
theorem NK.cells_len {R:Type} (K:NK R) (rs:List R):(K.cells rs).length=rs.length*K.sz:=flat_len K.len rs
theorem NK.cells_get {R:Type} (K:NK R) (rs:List R) (j:Nat) (h:j<rs.length) (i:Nat) (hi:i<K.sz):(K.cells rs)[j*K.sz+i]?=(K.enc rs[j])[i]?:=flat_get K.len rs j h i hi
def GR {R:Type} (K:NK R) (w:World) (a:Option Addr) (rs:List R) (lo hi:Nat):Prop:=RRow w a (K.cells rs) lo hi/\∀ r ∈ rs,RRow w (K.loc r) (K.inn r) lo hi
theorem GR.turned {R:Type} {K:NK R} {w w':World} {a:Option Addr} {rs:List R} {lo hi lo' hi':Nat} (h:GR K w a rs lo hi) (t:Turned w w' lo' hi') (hd:hi<=lo'\/hi'<=lo):GR K w' a rs lo hi:=⟨h.1.turned t hd,fun r hr=>(h.2 r hr).turned t hd⟩
theorem GR.below {R:Type} {K:NK R} {w w':World} {a:Option Addr} {rs:List R} {lo hi:Nat} (h:GR K w a rs lo hi) (hb:Below w.heap.size w w'):GR K w' a rs lo hi:=⟨h.1.below hb,fun r hr=>(h.2 r hr).below hb⟩
theorem GR.at {R:Type} {K:NK R} {w:World} {a:Option Addr} {rs:List R} {lo hi:Nat} (h:GR K w a rs lo hi) (hp:0<rs.length) (hz:0<K.sz) :
  ∃ b off,a=some ⟨b,off,none⟩/\b<w.heap.size/\∀ j (hj:j<rs.length) i v,(K.enc rs[j])[i]?=some v->w.cell? ⟨b,off+(j*K.sz+i),none⟩=some v:=by
 obtain ⟨b,off,e,_,_,h3,h4⟩:=h.1 (by rw [K.cells_len];exact Nat.mul_pos hp hz)
 refine ⟨b,off,e,h3,fun j hj i v hv=>h4 _ v ?_⟩
 have hi:i<K.sz:=by have:=(List.getElem?_eq_some_iff.1 hv).1;rw [K.len] at this;exact this
 rw [K.cells_get rs j hj i hi];exact hv
structure GW {R:Type} (K:NK R) (w:World) (g:Nat) (rs:List R) (lo hi:Nat):Prop where
 out:WCells w g (K.cells rs)
 glo:lo<=g
 ghi:g<hi
 rows:∀ r ∈ rs,K.inn r=[]\/∃ b,K.loc r=some ⟨b,0,none⟩/\lo<=b/\b<hi/\b ≠ g/\WCells w b (K.inn r)
 apart:rs.Pairwise fun r s=>K.inn r ≠ []->K.inn s ≠ []->K.loc r ≠ K.loc s
theorem GW.gr {R:Type} {K:NK R} {w:World} {g:Nat} {rs:List R} {lo hi:Nat} (h:GW K w g rs lo hi):GR K w (some ⟨g,0,none⟩) rs lo hi:=
 ⟨RRow.of_wcells h.out h.glo h.ghi,fun r hr=>by
  rcases h.rows r hr with e | ⟨b,e,h1,h2,_,h3⟩
  ·rw [e];intro hp;simp at hp
  ·rw [e];exact RRow.of_wcells h3 h1 h2⟩
theorem GW.turned {R:Type} {K:NK R} {w w':World} {g:Nat} {rs:List R} {lo hi lo' hi':Nat} (h:GW K w g rs lo hi) (t:Turned w w' lo' hi') (hd:hi<=lo'\/hi'<=lo):GW K w' g rs lo hi:=
 ⟨h.out.turned t (by have:=h.glo;have:=h.ghi;omega),h.glo,h.ghi,fun r hr=>by
  rcases h.rows r hr with e | ⟨b,e,h1,h2,h3,h4⟩
  ·exact .inl e
  ·exact .inr ⟨b,e,h1,h2,h3,h4.turned t (by omega)⟩,h.apart⟩
theorem GW.below {R:Type} {K:NK R} {w w':World} {g:Nat} {rs:List R} {lo hi:Nat} (h:GW K w g rs lo hi) (hb:Below w.heap.size w w'):GW K w' g rs lo hi:=
 ⟨h.out.below hb h.out.1,h.glo,h.ghi,fun r hr=>by
  rcases h.rows r hr with e | ⟨b,e,h1,h2,h3,h4⟩
  ·exact .inl e
  ·exact .inr ⟨b,e,h1,h2,h3,h4.below hb h4.1⟩,h.apart⟩
theorem GW.wide {R:Type} {K:NK R} {w:World} {g:Nat} {rs:List R} {lo hi lo' hi':Nat} (h:GW K w g rs lo hi) (h1:lo'<=lo) (h2:hi<=hi'):GW K w g rs lo' hi':=
 ⟨h.out,Nat.le_trans h1 h.glo,Nat.lt_of_lt_of_le h.ghi h2,fun r hr=>by
  rcases h.rows r hr with e | ⟨b,e,q1,q2,q3,q4⟩
  ·exact .inl e
  ·exact .inr ⟨b,e,by omega,by omega,q3,q4⟩,h.apart⟩
theorem WCells.setW_other {w:World} {g b:Nat} {L:List Value} (h:WCells w b L) (hne:b ≠ g) (off:Nat) (vs:List Value):WCells (Go.Proofs.YteaieagkjepgiaaGreatDoorT.setW w g off vs) b L:=by
 induction vs generalizing w off with
 | nil=>exact h
 | cons v vs ih=>exact ih (h.other ⟨g,off,none⟩ v hne) _
theorem GW.put {R:Type} {K:NK R} {w:World} {g:Nat} {rs:List R} {lo hi:Nat} (h:GW K w g rs lo hi) (j:Nat) (hj:j<rs.length) (r:R) (hr:K.inn r=[]\/∃ b,K.loc r=some ⟨b,0,none⟩/\lo<=b/\b<hi/\b ≠ g/\WCells w b (K.inn r))
  (hap:∀ s ∈ rs,K.inn s ≠ []->K.inn r ≠ []->K.loc s ≠ K.loc r):GW K (Go.Proofs.YteaieagkjepgiaaGreatDoorT.setW w g (j*K.sz) (K.enc r)) g (rs.set j r) lo hi:=by
 refine ⟨h.out.setElem K.len j hj r,h.glo,h.ghi,fun s hs=>?_,?_⟩
 ·rcases List.mem_or_eq_of_mem_set hs with q | q
  ·rcases h.rows s q with e | ⟨b,e,q1,q2,q3,q4⟩
   ·exact .inl e
   ·exact .inr ⟨b,e,q1,q2,q3,q4.setW_other q3 _ _⟩
  ·subst q
   rcases hr with e | ⟨b,e,q1,q2,q3,q4⟩
   ·exact .inl e
   ·exact .inr ⟨b,e,q1,q2,q3,q4.setW_other q3 _ _⟩
 ·have ha:=List.pairwise_iff_getElem.1 h.apart
  refine List.pairwise_iff_getElem.2 (fun a b ha' hb' hab h1 h2=>?_)
  rw [List.length_set] at ha' hb'
  rw [List.getElem_set] at h1 ⊢
  rw [List.getElem_set] at h2 ⊢
  by_cases ea:j=a
  ·by_cases eb:j=b
   ·omega
   ·rw [if_pos ea] at h1 ⊢
    rw [if_neg eb] at h2 ⊢
    exact (hap _ (List.getElem_mem hb') h2 h1).symm
  ·rw [if_neg ea] at h1 ⊢
   by_cases eb:j=b
   ·rw [if_pos eb] at h2 ⊢
    exact hap _ (List.getElem_mem ha') h1 h2
   ·rw [if_neg eb] at h2 ⊢
    exact ha a b ha' hb' hab h1 h2
theorem wp_shade {P:Program} {c:Code} {Q:Exit->Act->World->Prop} {a:Act} {W:World} (p:World->Prop) (h:p W) (k:∀ W',p W'->Code.wp P c Q a W'):Code.wp P c Q a W:=k W h
end Go.Proofs.YteaieagkjepgiaaGreatDoorT
/- . -/
namespace Go.Proofs.YteaieagkjepgiaaGreatDoorT
set_option maxRecDepth 100000
open Go.RowKit
structure PM where
 group:Int
 len:Int
instance:Inhabited PM:=⟨⟨0,0⟩⟩
def pcells (p:PM):List Value:=[.int .i64 p.group,.int .i64 p.len]
def pcs (ps:List PM):List Value:=ps.flatMap pcells
structure NM where
 id:Int
 parent:Int
 name:ByteArray
 dir:Bool
 schema:Int
 quota:Int
 len:Int
 pieces:List PM
 writer:Int
instance:Inhabited NM:=⟨⟨0,0,⟨#[]⟩,false,0,0,0,[],0⟩⟩
structure NR where
 nd:NM
 loc:Option Addr
 cap:Nat
instance:Inhabited NR:=⟨⟨default,none,0⟩⟩
abbrev nv (r:NR):Value:=.agg #[.int .i64 r.nd.id,.int .i64 r.nd.parent,.string r.nd.name,.bool r.nd.dir,.int .i64 r.nd.schema,.int .i64 r.nd.quota,.int .i64 r.nd.len,.slice r.loc r.nd.pieces.length r.cap,.int .i64 r.nd.writer]
def ncells (r:NR):List Value:=[.int .i64 r.nd.id,.int .i64 r.nd.parent,.string r.nd.name,.bool r.nd.dir,.int .i64 r.nd.schema,.int .i64 r.nd.quota,.int .i64 r.nd.len,.slice r.loc r.nd.pieces.length r.cap,.int .i64 r.nd.writer]
theorem ncells_len (r:NR):(ncells r).length=9:=rfl
abbrev NKind:NK NR:=⟨ncells,9,ncells_len,NR.loc,fun r=>pcs r.nd.pieces⟩
def nds (rs:List NR):List NM:=rs.map NR.nd
structure TM where
 nodes:List NM
 next:Int
def NAt (w:World) (b o:Nat) (r:NR):Prop:=
 w.cell? ⟨b,o,none⟩=some (.int .i64 r.nd.id)/\w.cell? ⟨b,o+1,none⟩=some (.int .i64 r.nd.parent)/\w.cell? ⟨b,o+2,none⟩=some (.string r.nd.name)/\w.cell? ⟨b,o+3,none⟩=some (.bool r.nd.dir)/\w.cell? ⟨b,o+4,none⟩=some (.int .i64 r.nd.schema)/\w.cell? ⟨b,o+5,none⟩=some (.int .i64 r.nd.quota)/\w.cell? ⟨b,o+6,none⟩=some (.int .i64 r.nd.len)/\w.cell? ⟨b,o+7,none⟩=some (.slice r.loc r.nd.pieces.length r.cap)/\w.cell? ⟨b,o+8,none⟩=some (.int .i64 r.nd.writer)
abbrev TR (w:World) (a:Option Addr) (rs:List NR) (lo hi:Nat):Prop:=GR NKind w a rs lo hi
abbrev TW (w:World) (g:Nat) (rs:List NR) (lo hi:Nat):Prop:=GW NKind w g rs lo hi
theorem NAt.below {w w':World} {b o:Nat} {r:NR} (h:NAt w b o r) (hb:Below w.heap.size w w') (hl:b<w.heap.size):NAt w' b o r:=by
 obtain ⟨h0,h1,h2,h3,h4,h5,h6,h7,h8⟩:=h
 have k:∀ i v,w.cell? ⟨b,i,none⟩=some v->w'.cell? ⟨b,i,none⟩=some v:=fun i v hv=>(hb.cell (p:=⟨b,i,none⟩) hl).trans hv
 exact ⟨k _ _ h0,k _ _ h1,k _ _ h2,k _ _ h3,k _ _ h4,k _ _ h5,k _ _ h6,k _ _ h7,k _ _ h8⟩
def TSee (w:World) (v:Value) (T:TM) (lo hi:Nat):Prop:=∃ (a:Option Addr) (cap:Nat) (rs:List NR),v = .agg #[.slice a rs.length cap,.int .i64 T.next]/\nds rs=T.nodes/\TR w a rs lo hi
def TAns (w:World) (v:Value) (T:TM) (lo hi:Nat):Prop:=∃ (a:Option Addr) (cap:Nat) (rs:List NR),v = .agg #[.slice a rs.length cap,.int .i64 T.next]/\nds rs=T.nodes/\rs.length<=cap/\(rs=[]\/∃ g,a=some ⟨g,0,none⟩/\TW w g rs lo hi)
theorem TSee.turned {w w':World} {v:Value} {T:TM} {lo hi lo' hi':Nat} (h:TSee w v T lo hi) (t:Turned w w' lo' hi') (hd:hi<=lo'\/hi'<=lo):TSee w' v T lo hi:=by
 obtain ⟨a,cap,rs,e,hr,h1⟩:=h
 exact ⟨a,cap,rs,e,hr,h1.turned t hd⟩
theorem TSee.below {w w':World} {v:Value} {T:TM} {lo hi:Nat} (h:TSee w v T lo hi) (hb:Below w.heap.size w w'):TSee w' v T lo hi:=by
 obtain ⟨a,cap,rs,e,hr,h1⟩:=h
 exact ⟨a,cap,rs,e,hr,h1.below hb⟩
theorem TAns.turned {w w':World} {v:Value} {T:TM} {lo hi lo' hi':Nat} (h:TAns w v T lo hi) (t:Turned w w' lo' hi') (hd:hi<=lo'\/hi'<=lo):TAns w' v T lo hi:=by
 obtain ⟨a,cap,rs,e,hr,hc,h1⟩:=h
 refine ⟨a,cap,rs,e,hr,hc,?_⟩
 rcases h1 with rfl | ⟨g,rfl,hm⟩
 ·exact .inl rfl
 ·exact .inr ⟨g,rfl,hm.turned t hd⟩
theorem TAns.below {w w':World} {v:Value} {T:TM} {lo hi:Nat} (h:TAns w v T lo hi) (hb:Below w.heap.size w w'):TAns w' v T lo hi:=by
 obtain ⟨a,cap,rs,e,hr,hc,h1⟩:=h
 refine ⟨a,cap,rs,e,hr,hc,?_⟩
 rcases h1 with rfl | ⟨g,rfl,hm⟩
 ·exact .inl rfl
 ·exact .inr ⟨g,rfl,hm.below hb⟩
end Go.Proofs.YteaieagkjepgiaaGreatDoorT
/- . -/
namespace Go.Proofs.YteaieagkjepgiaaGreatDoorT
set_option maxRecDepth 100000
open Go.RowKit
attribute [local go_sem ↓] Go.wp_at_zero Go.wp_at_succ
def schK (s:Int):Nat:=if s=1 then 2 else if s=2 then 3 else if s=3 then 4 else 0
def schM (s:Int):Nat:=if s=1 then 1 else if s=2 then 2 else if s=3 then 2 else 0
def schOk (s:Int):Bool:=decide (s=1)||decide (s=2)||decide (s=3)
theorem sch_cases {s:Int} (h:schOk s=true):s=1\/s=2\/s=3:=by
 unfold schOk at h
 simp only [Bool.or_eq_true,decide_eq_true_eq] at h
 omega
theorem sch_no {s:Int} (h:schOk s=false):s ≠ 1/\s ≠ 2/\s ≠ 3:=by
 unfold schOk at h
 simp only [Bool.or_eq_false_iff,decide_eq_false_iff_not] at h
 omega
theorem sch_bounds {s:Int} (h:schOk s=true):2<=schK s/\schK s<=4/\1<=schM s/\schM s<=2:=by
 rcases sch_cases h with rfl | rfl | rfl <;> decide
theorem sch_zero {s:Int} (h:schOk s=false):schK s=0/\schM s=0:=by
 obtain ⟨h1,h2,h3⟩:=sch_no h
 unfold schK schM
 rw [if_neg h1,if_neg h2,if_neg h3,if_neg h1,if_neg h2,if_neg h3]
 exact ⟨rfl,rfl⟩
def SchPost (s:Int) (w:World) (e:Ending) (w':World):Prop:=e = .returned (.tuple #[.int .i64 (schK s:Nat),.int .i64 (schM s:Nat),.bool (schOk s)])/\w'=w
theorem specSchema (s:Int) (w:World):Calls Tw.prog 29 #[.int .i64 s] w fun e w'=>SchPost s w e w':=by
 cases h:schOk s with
 | true =>
  obtain rfl | rfl | rfl:=sch_cases h
  all_goals
   clear h
   go_enter Tw.func29,Tw.ntmps29
   go_wp2_with fail
   go_ret3
   exact ⟨rfl,rfl⟩
 | false =>
  obtain ⟨h1,h2,h3⟩:=sch_no h
  obtain ⟨e1,e2⟩:=sch_zero h
  unfold SchPost
  rw [e1,e2,h]
  clear h e1 e2
  go_enter Tw.func29,Tw.ntmps29
  go_wp2_with fail
  go_ret3
  exact ⟨rfl,rfl⟩
def SchB (s:Int) (w:World) (e:Ending) (w':World):Prop:=e = .returned (.tuple #[.int .i64 (schK s:Nat),.int .i64 (schM s:Nat),.bool (schOk s)])/\Below w.heap.size w w'
end Go.Proofs.YteaieagkjepgiaaGreatDoorT
/- . -/
namespace Go.Proofs.YteaieagkjepgiaaGreatDoorT.W
def val:List UInt8->Nat
 | []=>0
 | b::l=>b.toNat % 128+128*val l
def rv:Nat->Nat->Bool->List UInt8->Nat->Option (Nat × Nat)
 | _,_,_,[],_=>none
 | n,w,first,b::l,p =>
  if 1000000000<w then none
  else if 127<b.toNat then rv (n+(b.toNat - 128)*w) (w*128) false l (p+1)
  else if b.toNat=0/\first=false then none
  else if 1000000000<n+b.toNat*w then none
  else some (n+b.toNat*w,p+1)
end Go.Proofs.YteaieagkjepgiaaGreatDoorT.W
/- . -/
namespace Go.Proofs.YteaieagkjepgiaaGreatDoorT
set_option maxRecDepth 100000
open Go.RowKit
theorem l01In_any (x a b:Int) (w:World) :
  Calls Tw.prog 59 #[.int .i64 x,.int .i64 a,.int .i64 b] w fun e w'=>e = .returned (.bool (decide (a<=x)&&decide (x<=b)))/\w'=w:=by
 by_cases h:a<=x
 ·by_cases h':x<=b
  ·go_enter Tw.func59,Tw.ntmps59
   go_wp2
   go_ret
   exact ⟨by simp [h,h'],rfl⟩
  ·go_enter Tw.func59,Tw.ntmps59
   go_wp2
   go_ret
   exact ⟨by simp [h'],rfl⟩
 ·go_enter Tw.func59,Tw.ntmps59
  go_wp2
  go_ret
  exact ⟨by simp;omega,rfl⟩
end Go.Proofs.YteaieagkjepgiaaGreatDoorT
/- . -/
namespace Go.Proofs.YteaieagkjepgiaaGreatDoorT
set_option maxRecDepth 100000
open Go.RowKit
attribute [local go_sem ↓] Go.wp_at_zero Go.wp_at_succ
theorem isIn (x a b:Int) (w:World) (r:Bool) (h:(decide (a<=x)&&decide (x<=b))=r):Calls Tw.prog 59 #[.int .i64 x,.int .i64 a,.int .i64 b] w fun e w'=>e = .returned (.bool r)/\w'=w:=by
 rw [<-h];exact l01In_any x a b w
def groupN (s:Int):Nat:=schK s*8
theorem groupN_bounds (s:Int):groupN s<=32:=by
 unfold groupN
 cases h:schOk s with
 | true=>have:=(sch_bounds h).2.1;omega
 | false=>rw [(sch_zero h).1];omega
theorem specGroupSize (s:Int) (w:World):Calls Tw.prog 30 #[.int .i64 s] w fun e w'=>e = .returned (.int .i64 (groupN s:Nat))/\w'=w:=by
 have HS:=Shut.mk (fun W=>specSchema s W)
 unfold SchPost at HS
 have hk:schK s<=4:=by
  cases h:schOk s with
  | true=>exact (sch_bounds h).2.1
  | false=>rw [(sch_zero h).1];omega
 have hg:((groupN s:Nat):Int)=(schK s:Int)*4*2:=by unfold groupN;push_cast;omega
 generalize schOk s=ok at *
 generalize schM s=m at *
 generalize schK s=k at *
 have HG:=Shut.mk hg
 clear hg
 go_enter Tw.func30,Tw.ntmps30
 go_wp2_with fail
 refine (HS.out _).mono ?_
 rintro e w1 ⟨rfl,rfl⟩
 go_wp2_with fail
 go_ret
 exact ⟨by rw [HG.out];first | rfl | (simp;done) | (congr 2;omega),rfl⟩
def unitAt (k o:Nat):Nat:=o % (k*8) / 4 % k
def placeIn (k o:Nat):Nat:=o % (k*8) / 4 / k*4+o % (k*8) % 4
def placeX (s off:Int):Nat × Nat × Nat:=if schOk s=true/\0<=off/\off<=100000 then (off.toNat / (schK s*8),unitAt (schK s) off.toNat,placeIn (schK s) off.toNat) else (0,0,0)
def PlacePost (s off:Int) (w:World) (e:Ending) (w':World):Prop:=e = .returned (.tuple #[.int .i64 ((placeX s off).1:Nat),.int .i64 ((placeX s off).2.1:Nat),.int .i64 ((placeX s off).2.2:Nat)])/\Below w.heap.size w w'
set_option maxHeartbeats 1000000 in
theorem specPlaceOf (s off:Int) (w:World):Calls Tw.prog 31 #[.int .i64 s,.int .i64 off] w fun e w'=>PlacePost s off w e w':=by
 have HS:=Shut.mk (fun W=>specSchema s W)
 unfold SchPost at HS
 have HG:=Shut.mk (fun W=>specGroupSize s W)
 unfold PlacePost
 cases h:schOk s with
 | false =>
  have e0:placeX s off=(0,0,0):=by unfold placeX;rw [if_neg (by rw [h];simp)]
  rw [e0]
  rw [h] at HS
  clear h e0
  generalize schK s=k at *
  generalize schM s=m at *
  go_enter Tw.func31,Tw.ntmps31
  go_wp2_with fail
  refine (HS.out _).mono ?_
  rintro e w1 ⟨rfl,rfl⟩
  go_wp2_with fail
  go_ret3
  exact ⟨rfl,Below.refl _ _⟩
 | true =>
  rw [h] at HS
  obtain ⟨b1,b2,_,_⟩:=sch_bounds h
  by_cases ho:0<=off/\off<=100000
  ·obtain ⟨o,rfl⟩:=Int.eq_ofNat_of_zero_le ho.1
   have ho5:o<=100000:=by omega
   have hin:(decide ((0:Int)<=(o:Int))&&decide ((o:Int)<=100000))=true:=by simp;omega
   have e0:placeX s (o:Int)=(o / (schK s*8),unitAt (schK s) o,placeIn (schK s) o):=by unfold placeX;rw [if_pos ⟨h,ho⟩];rfl
   rw [e0]
   unfold groupN at HG
   clear h ho e0
   generalize schM s=m at *
   generalize schK s=k at *
   obtain ⟨S,hS⟩:∃ S,S=k*8:=⟨_,rfl⟩
   have hS0:0<S:=by omega
   have hS32:S<=32:=by omega
   have e1:((o:Int) % (S:Int))=((o % S:Nat):Int):=by push_cast;rfl
   have e2:((o:Int) / (S:Int))=((o / S:Nat):Int):=by push_cast;rfl
   have hb:o % S<S:=Nat.mod_lt _ hS0
   have e3:((o % S:Nat):Int) / 4=((o % S / 4:Nat):Int):=by push_cast;rfl
   have e4:((o % S:Nat):Int) % 4=((o % S % 4:Nat):Int):=by push_cast;rfl
   have e5:((o % S / 4:Nat):Int) % (k:Int)=((unitAt k o:Nat):Int):=by unfold unitAt;rw [<-hS];push_cast;rfl
   have e6:((o % S / 4:Nat):Int) / (k:Int)=((o % S / 4 / k:Nat):Int):=by push_cast;rfl
   have e7:((placeIn k o:Nat):Int)=((o % S / 4 / k:Nat):Int)*4+((o % S % 4:Nat):Int):=by unfold placeIn;rw [<-hS];push_cast;rfl
   have hc8:o % S / 4<=8:=by omega
   have hd:o % S / 4 / k<=8:=Nat.le_trans (Nat.div_le_self _ _) hc8
   have hr:o % S % 4<4:=Nat.mod_lt _ (by omega)
   have hqq:o / S<=100000:=Nat.le_trans (Nat.div_le_self _ _) ho5
   rw [<-hS] at HG ⊢
   generalize unitAt k o=u at *
   generalize placeIn k o=pl at *
   generalize o % S % 4=r at *
   generalize o % S / 4 / k=d at *
   generalize o % S / 4=c at *
   generalize o % S=b at *
   generalize o / S=q at *
   have HE:=Shut.mk e7
   have hSn:((S:Int)==0)=false:=by rw [beq_eq_false_iff_ne];omega
   have hkn:((k:Int)==0)=false:=by rw [beq_eq_false_iff_ne];omega
   have s0:(0:Int)<(S:Int):=by omega
   have k0:(0:Int)<(k:Int):=by omega
   have t1:(o:Int).tmod (S:Int)=(b:Int):=by rw [Int.tmod_eq_emod_of_nonneg (by omega)];exact e1
   have t2:(o:Int).tdiv (S:Int)=(q:Int):=by rw [Int.tdiv_eq_ediv_of_nonneg (by omega)];exact e2
   have t3:(b:Int).tdiv 4=(c:Int):=by rw [Int.tdiv_eq_ediv_of_nonneg (by omega)];exact e3
   have t4:(b:Int).tmod 4=(r:Int):=by rw [Int.tmod_eq_emod_of_nonneg (by omega)];exact e4
   have t5:(c:Int).tmod (k:Int)=(u:Int):=by rw [Int.tmod_eq_emod_of_nonneg (by omega)];exact e5
   have t6:(c:Int).tdiv (k:Int)=(d:Int):=by rw [Int.tdiv_eq_ediv_of_nonneg (by omega)];exact e6
   clear e7 hS
   go_enter Tw.func31,Tw.ntmps31
   go_wp2_with fail
   refine (HS.out _).mono ?_
   rintro e w1 ⟨rfl,rfl⟩
   go_wp2_with fail
   refine (isIn _ _ _ _ true hin).mono ?_
   rintro e w2 ⟨rfl,rfl⟩
   go_wp2_with fail
   refine (HG.out _).mono ?_
   rintro e w3 ⟨rfl,rfl⟩
   go_wp2_with fail
   go_quiet (fail)
   go_wp2_with fail
   go_ret3
   exact ⟨by rw [HE.out];rfl,⟨rfl,rfl,rfl,Nat.le_refl _,fun _ _=>rfl⟩⟩
  ·have hin:(decide ((0:Int)<=off)&&decide (off<=100000))=false:=by simp only [Bool.and_eq_false_iff,decide_eq_false_iff_not];omega
   have e0:placeX s off=(0,0,0):=by unfold placeX;rw [if_neg (fun q=>ho q.2)]
   rw [e0]
   clear h e0 ho
   generalize schK s=k at *
   generalize schM s=m at *
   go_enter Tw.func31,Tw.ntmps31
   go_wp2_with fail
   refine (HS.out _).mono ?_
   rintro e w1 ⟨rfl,rfl⟩
   go_wp2_with fail
   refine (isIn _ _ _ _ false hin).mono ?_
   rintro e w2 ⟨rfl,rfl⟩
   go_wp2_with fail
   go_ret3
   exact ⟨rfl,Below.refl _ _⟩
end Go.Proofs.YteaieagkjepgiaaGreatDoorT
/- . -/
namespace Go.Proofs.YteaieagkjepgiaaGreatDoorT
set_option maxRecDepth 100000
open Go.PlainAid (bt)
def nameC (c:UInt8):Bool:=(decide (97<=c.toNat)&&decide (c.toNat<=122))||(decide (48<=c.toNat)&&decide (c.toNat<=57))
def nameL (l:List UInt8):Bool:=l.all nameC&&(decide (1<=l.length)&&decide (l.length<=8))
def segs:List UInt8->List (List UInt8)
 | []=>[[]]
 | c::r=>if c=47 then []::segs r else match segs r with
  | []=>[[c]]
  | h::t=>(c::h)::t
theorem segs_cons {c:UInt8} {r x:List UInt8} {t:List (List UInt8)} (h:c ≠ 47) (e:segs r=x::t):segs (c::r)=(c::x)::t:=by
 unfold segs
 rw [if_neg h,e]
theorem segs_cut:∀ (a r:List UInt8),(∀ c ∈ a,c ≠ 47)->segs (a++47::r)=a::segs r
 | [],r,_=>by simp [segs]
 | c::a,r,h=>by
  exact segs_cons (h c (by simp)) (segs_cut a r (fun x hx=>h x (by simp [hx])))
abbrev ba (l:List UInt8):ByteArray:=⟨l.toArray⟩
abbrev lb (s:ByteArray):List UInt8:=s.data.toList
theorem ba_lb (s:ByteArray):ba (lb s)=s:=rfl
def nameB (s:ByteArray):Bool:=nameL (lb s)
structure PaRel (p:ByteArray) (i bg:Nat) (done:List ByteArray):Prop where
 le:bg<=i
 pos:1<=bg
 clean:∀ j,bg<=j->j<i->bt p j ≠ 47
 sofar:(segs ((lb p).drop 1)).map ba=done++(segs ((lb p).drop bg)).map ba
 names:∀ s ∈ done,nameB s=true
theorem ext_list (s:ByteArray) (a b:Nat):lb (s.extract a b)=((lb s).drop a).take (b - a):=by simp [lb,ByteArray.data_extract]
theorem bt_at {s:ByteArray} {j:Nat} (h:j<s.size):bt s j=((lb s)[j]'h).toNat:=by
 unfold bt;rw [dif_pos h];rfl
theorem clean_list {p:ByteArray} {i bg:Nat} (hi:i<=p.size) (h:∀ j,bg<=j->j<i->bt p j ≠ 47):∀ c ∈ ((lb p).drop bg).take (i - bg),c ≠ 47:=fun c hc e=>by
 subst e
 obtain ⟨j,hj,e2⟩:=List.mem_iff_getElem.1 hc
 rw [List.length_take,List.length_drop] at hj
 have hl:(lb p).length=p.size:=rfl
 rw [List.getElem_take,List.getElem_drop] at e2
 have:=h (bg+j) (by omega) (by omega)
 rw [bt_at (by omega)] at this
 simp only [e2] at this
 exact this (by decide)
theorem PaRel.split {p:ByteArray} {i bg:Nat} {done:List ByteArray} (h:PaRel p i bg done) (hi:i<p.size) (hc:bt p i=47):(segs ((lb p).drop 1)).map ba=(done++[p.extract bg i])++(segs ((lb p).drop (i+1))).map ba:=by
 have hl:(lb p).length=p.size:=rfl
 have e:(lb p).drop bg=((lb p).drop bg).take (i - bg)++47::(lb p).drop (i+1):=by
  have h1:((lb p).drop bg).drop (i - bg)=47::(lb p).drop (i+1):=by
   rw [List.drop_drop,show bg+(i - bg)=i from by have:=h.le;omega,List.drop_eq_getElem_cons (by omega)]
   congr 1
   have:=bt_at hi
   rw [hc] at this
   have h2:((lb p)[i]'(by omega)).toNat=47:=by omega
   exact UInt8.toNat_inj.1 h2
  rw [<-h1,List.take_append_drop]
 rw [h.sofar,e,segs_cut _ _ (clean_list (by omega) h.clean),List.map_cons,List.append_assoc]
 congr 1
 rw [<-ext_list,ba_lb];rfl
theorem PaRel.next {p:ByteArray} {i bg:Nat} {done:List ByteArray} (h:PaRel p i bg done) (hi:i<p.size) (hc:bt p i=47) (hn:nameB (p.extract bg i)=true):PaRel p (i+1) (i+1) (done++[p.extract bg i]):=
 ⟨Nat.le_refl _,by omega,fun j h1 h2=>by omega,h.split hi hc,fun s hs=>by
  rcases List.mem_append.1 hs with q | q
  ·exact h.names s q
  ·simp at q;subst q;exact hn⟩
end Go.Proofs.YteaieagkjepgiaaGreatDoorT
/- . -/
namespace Go.Proofs.YteaieagkjepgiaaGreatDoorT
set_option maxRecDepth 100000
def inI (x a b:Int):Bool:=decide (a<=x)&&decide (x<=b)
end Go.Proofs.YteaieagkjepgiaaGreatDoorT
/- . -/
namespace Go.Proofs.YteaieagkjepgiaaGreatDoorT
set_option maxRecDepth 100000
open Go.RowKit
attribute [local go_sem ↓] Go.wp_at_zero Go.wp_at_succ
structure UnM where
 group:Int
 index:Int
 text:ByteArray
 sum:Int
instance:Inhabited UnM:=⟨⟨0,0,⟨#[]⟩,0⟩⟩
abbrev unv (f:UnM):Value:=.agg #[.int .i64 f.group,.int .i64 f.index,.string f.text,.int .i64 f.sum]
def unC (f:UnM):List Value:=[.int .i64 f.group,.int .i64 f.index,.string f.text,.int .i64 f.sum]
theorem unC_len (f:UnM):(unC f).length=4:=rfl
def unS (fs:List UnM):List Value:=fs.flatMap unC
theorem unS_len (fs:List UnM):(unS fs).length=fs.length*4:=flat_len unC_len fs
abbrev UnRow (w:World) (a:Option Addr) (fs:List UnM):Prop:=CRow w a (unS fs)
theorem UnRow.at {w:World} {a:Option Addr} {fs:List UnM} (h:UnRow w a fs) (hp:0<fs.length) :
  ∃ b off,a=some ⟨b,off,none⟩/\b<w.heap.size/\∀ j (h:j<fs.length),w.cell? ⟨b,off+j*4,none⟩=some (.int .i64 fs[j].group)/\w.cell? ⟨b,off+j*4+1,none⟩=some (.int .i64 fs[j].index)/\w.cell? ⟨b,off+j*4+2,none⟩=some (.string fs[j].text)/\w.cell? ⟨b,off+j*4+3,none⟩=some (.int .i64 fs[j].sum):=by
 obtain ⟨b,off,e,hb,hc⟩:=h (by rw [unS_len];omega)
 exact ⟨b,off,e,hb,fun j hj=>⟨hc (j*4) _ (flat_get unC_len fs j hj 0 (by omega)),hc (j*4+1) _ (flat_get unC_len fs j hj 1 (by omega)),hc (j*4+2) _ (flat_get unC_len fs j hj 2 (by omega)),hc (j*4+3) _ (flat_get unC_len fs j hj 3 (by omega))⟩⟩
def UnFit (f:UnM):Prop:=f.text.size<=9223372036854775807/\(-9223372036854775808<=f.group/\f.group<=9223372036854775807)/\(-9223372036854775808<=f.index/\f.index<=9223372036854775807)/\(-9223372036854775808<=f.sum/\f.sum<=9223372036854775807)
def UnFits (fs:List UnM):Prop:=fs.length<=9223372036854775807/\∀ f ∈ fs,UnFit f
def unSum:List UnM->Nat
 | []=>0
 | f::fs=>f.text.size+unSum fs
theorem unSum_take (fs:List UnM) (k:Nat) (h:k<fs.length):unSum (fs.take (k+1))=unSum (fs.take k)+(fs[k].text.size):=by
 induction fs generalizing k with
 | nil=>simp at h
 | cons f fs ih =>
  cases k with
  | zero=>simp [unSum]
  | succ k =>
   have:=ih k (by simpa using h)
   simp only [List.take_succ_cons,unSum,List.getElem_cons_succ]
   omega
theorem unSum_mem {fs:List UnM} {f:UnM} (h:f ∈ fs):f.text.size<=unSum fs:=by
 induction fs with
 | nil=>cases h
 | cons g fs ih =>
  rcases List.mem_cons.1 h with rfl | q
  ·simp only [unSum];omega
  ·have:=ih q
   simp only [unSum];omega
def SzPostUn (left:Int) (n:Nat) (w:World) (e:Ending) (w':World):Prop:=∃ r:Int,e = .returned (.int .i64 r)/\-1<=r/\(0<=r->r+n=left)/\Below w.heap.size w w'
set_option maxHeartbeats 400000 in
theorem szUnit_any (f:UnM) (left:Int) (w:World) (h0:0<=left) (h1:left<=1048576) (hf:UnFit f) :
  Calls Tw.prog 58 #[unv f,.int .i64 left] w fun e w'=>SzPostUn left (f.text.size) w e w':=by
 have hh:=hf
 unfold UnFit at hh
 clear hf
 by_cases c_text:left - f.text.size<0
 ·go_enter Tw.func58,Tw.ntmps58
  go_wp2_with fail
  go_ret
  exact ⟨-1,rfl,by omega,by first | omega | (intro _;push_cast;omega),(Below.refl _ _).alloc (Nat.le_refl _) _⟩
 ·skip
  go_enter Tw.func58,Tw.ntmps58
  go_wp2_with fail
  go_ret
  exact ⟨left - f.text.size,rfl,by omega,by first | omega | (intro _;push_cast;omega),(Below.refl _ _).alloc (Nat.le_refl _) _⟩
set_option maxHeartbeats 1000000 in
theorem szUnitS_any (a:Option Addr) (fs:List UnM) (cap:Nat) (left:Int) (w:World) (hr:UnRow w a fs) (hf:UnFits fs) (h0:0<=left) (h1:left<=1048576) :
  Calls Tw.prog 28 #[.slice a fs.length cap,.int .i64 left] w fun e w'=>SzPostUn left (fs.length+unSum fs) w e w':=by
 have hl:=hf.1
 by_cases c1:left - fs.length<0
 ·clear hr hf
  go_enter Tw.func28,Tw.ntmps28
  go_wp2_with fail
  go_ret
  exact ⟨-1,rfl,by omega,by omega,Below.refl _ _⟩
 ·have HR:Hid (UnRow w a fs):=hr
  have HF:Hid (UnFits fs):=hf
  clear hr hf
  go_enter Tw.func28,Tw.ntmps28
  go_wp2_with fail
  go_loopw [1,5] (fun v i wr=>∃ (k:Nat) (l:Int),v = .int .i64 l/\i = .int .i64 k/\k<=fs.length/\0<=l/\l+fs.length+unSum (fs.take k)=left/\Below w.heap.size w wr) (fun _ i _=>fs.length - (intOf i).toNat)
  case atStart=>exact ⟨0,left - fs.length,rfl,rfl,Nat.zero_le _,by omega,by simp [unSum],Below.refl _ _⟩
  case round =>
   obtain ⟨k,l,rfl,rfl,hk,hl0,hsum,hb⟩:=hrel
   by_cases hlt:k<fs.length
   ·obtain ⟨b,off,rfl,hbl,hc⟩:=UnRow.at (HR.out.stays hb) (by omega)
    obtain ⟨d0,d1,d2,d3⟩:=hc k hlt
    have HS:Hid (l+fs.length+unSum (fs.take k)=left):=hsum
    have hst:=unSum_take fs k hlt
    have HST:Hid (unSum (fs.take (k+1))=unSum (fs.take k)+(fs[k].text.size)):=hst
    have hfk:=HF.out.2 fs[k] (List.getElem_mem hlt)
    obtain ⟨f,hfe⟩:∃ f,f=fs[k]:=⟨_,rfl⟩
    rw [<-hfe] at d0 d1 d2 d3 hfk
    have HFE:Hid (f=fs[k]):=hfe
    have HB:Hid (Below w.heap.size w wr):=hb
    have hl1:l<=1048576:=by omega
    have k0:(0:Int)<=(k:Int):=by omega
    have k1:(k:Int)<(fs.length:Int):=by omega
    clear hc hsum hst hfe hb
    go_wp2_with fail
    refine (szUnit_any f l _ hl0 hl1 hfk).mono ?_
    rintro e w2 ⟨r,rfl,hr1,hr2,hb2⟩
    have HB2:Hid (Below w.heap.size w w2):=HB.out.trans (hb2.mono HB.out.size)
    clear hb2
    by_cases hr:r<0
    ·go_wp2_with fail
     go_ret
     exact ⟨-1,rfl,by omega,by omega,HB2.out⟩
    ·have hr3:=hr2 (by omega)
     have HR3:Hid (r+((f.text.size:Nat):Int)=l):=hr3
     clear hr2 hr3
     go_wp2_with fail
     go_roundw
     case rel=>exact ⟨k+1,r,rfl,by go_num,by omega,by omega,by rw [HST.out,<-HFE.out];have:=HR3.out;have:=HS.out;push_cast at *;omega,HB2.out⟩
     case measure=>simp [intOf];omega
   ·obtain rfl:k=fs.length:=by omega
    rw [List.take_length] at hsum
    go_wp2_with fail
    go_ret
    exact ⟨l,rfl,by omega,by intro _;push_cast;omega,hb⟩
theorem toUnit_any (f:UnM) (w:World) :
  Calls Tw.prog 66 #[unv f] w fun e w'=>e = .returned (unv f)/\Below w.heap.size w w':=by
 go_enter Tw.func66,Tw.ntmps66
 go_wp2_with fail
 refine bodyPost_ret (v:=unv f) (by simp [results,Tw.results66,go_sem]) rfl ⟨rfl,?_⟩
 exact (((Below.refl _ _).alloc (Nat.le_refl _) _).alloc (by simp) _).alloc (by simp;omega) _
def ToPostUn (fs:List UnM) (w:World) (e:Ending) (w':World):Prop:=∃ g,e = .returned (.slice (some ⟨g,0,none⟩) fs.length fs.length)/\w.heap.size<=g/\WCells w' g (unS fs)/\Below w.heap.size w w'
theorem infoUnit:(Tw.prog.info? 49).map (fun i=>(i.zero,i.size,i.bytes))=some (some (.agg #[.int .i64 0,.int .i64 0,.string ⟨#[]⟩,.int .i64 0]),4,40):=by kernel_rfl
set_option maxHeartbeats 1000000 in
theorem toUnitS_any (a:Option Addr) (fs:List UnM) (cap:Nat) (w:World) (hr:UnRow w a fs) (hl:fs.length<=1048576) :
  Calls Tw.prog 40 #[.slice a fs.length cap] w fun e w'=>ToPostUn fs w e w':=by
 obtain ⟨i0,hi,hz0,hz1,hz2⟩:=info_parts infoUnit
 have HR:Hid (UnRow w a fs):=hr
 clear hr
 go_enter Tw.func40,Tw.ntmps40
 go_wp2_with (at_make;refine wpList_make_full _ rfl _ _ 43 rfl w.heap.size 49 i0 _ 4 Tw.underlying43 hi hz0 hz1 .i64 .i64 _ _ fs.length rfl rfl (by omega) (by omega) ?b2 ?b3 ?b4 ?_)
 case b2=>rw [hz2];omega
 case b3=>unfold maxLen;omega
 case b4=>omega
 intro wm hownm hgrm
 have hbm:Below w.heap.size w wm:=(Below.refl _ _).grown hgrm (Nat.le_refl _) (fun j hj=>by simp at hj)
 have hrow:WCells wm w.heap.size (unS (List.replicate fs.length default)):=by
  have h:=own_wcells hownm
  have e:(madeCells #[.int .i64 0,.int .i64 0,.string ⟨#[]⟩,.int .i64 0] (fs.length*4)).toList=unS (List.replicate fs.length default):=made_flat unC_len (by decide) #[.int .i64 0,.int .i64 0,.string ⟨#[]⟩,.int .i64 0] default rfl _
  rw [e] at h;exact h
 clear hownm hgrm
 go_wp2_with fail
 go_loopw [4] (fun i wr=>∃ (k:Nat) (gs:List UnM),i = .int .i64 k/\k<=fs.length/\gs.length=fs.length/\gs.take k=fs.take k/\WCells wr w.heap.size (unS gs)/\Below w.heap.size w wr) (fun i _=>fs.length - (intOf i).toNat)
 case atStart=>exact ⟨0,_,rfl,by omega,by simp,by simp,hrow,hbm⟩
 case round =>
  clear hrow hbm
  obtain ⟨k,gs,rfl,hk,hgl,hgt,hw,hb⟩:=hrel
  by_cases hlt:k<fs.length
  ·obtain ⟨b,off,rfl,hbl,hc⟩:=UnRow.at HR.out (by omega)
   obtain ⟨d0,d1,d2,d3⟩:=hc k hlt
   rw [<-hb.cell (p:=⟨b,off+k*4,none⟩) hbl] at d0
   rw [<-hb.cell (p:=⟨b,off+k*4+1,none⟩) hbl] at d1
   rw [<-hb.cell (p:=⟨b,off+k*4+2,none⟩) hbl] at d2
   rw [<-hb.cell (p:=⟨b,off+k*4+3,none⟩) hbl] at d3
   obtain ⟨f,hfe⟩:∃ f,f=fs[k]:=⟨_,rfl⟩
   rw [<-hfe] at d0 d1 d2 d3
   have k0:(0:Int)<=(k:Int):=by omega
   have k1:(k:Int)<(fs.length:Int):=by omega
   have HFE:Hid (f=fs[k]):=hfe
   have HG:Hid (gs.length=fs.length/\gs.take k=fs.take k):=⟨hgl,hgt⟩
   clear hc hfe hgl hgt
   go_wp2_with fail
   refine (toUnit_any f _).mono ?_
   rintro e w2 ⟨rfl,hb2⟩
   have hw2:=hw.below hb2 hw.1
   have hb3:Below w.heap.size w w2:=hb.trans (hb2.mono hb.size)
   clear hw hb hb2 d0 d1 d2 d3
   have hgk:k<gs.length:=by have:=HG.out.1;omega
   obtain ⟨c0,z0⟩:=hw2.2 (k*4) _ (flat_get unC_len gs k hgk 0 (by omega))
   obtain ⟨c1,z1⟩:=hw2.2 (k*4+1) _ (flat_get unC_len gs k hgk 1 (by omega))
   obtain ⟨c2,z2⟩:=hw2.2 (k*4+2) _ (flat_get unC_len gs k hgk 2 (by omega))
   obtain ⟨c3,z3⟩:=hw2.2 (k*4+3) _ (flat_get unC_len gs k hgk 3 (by omega))
   have HW:Hid (WCells w2 w.heap.size (unS gs)):=hw2
   clear hw2
   have hset:=HW.out.setElem unC_len k hgk f
   have hbn:=below_setW hb3 (Nat.le_refl _) (k*4) (unC f)
   have HS:Hid (WCells (setW w2 w.heap.size (k*4) (unC f)) w.heap.size (unS (gs.set k f))):=hset
   have HBN:Hid (Below w.heap.size w (setW w2 w.heap.size (k*4) (unC f))):=hbn
   clear hset hbn
   go_wp2_with fail
   go_roundw
   case rel =>
    refine ⟨k+1,gs.set k f,by go_num,by omega,by rw [List.length_set];exact HG.out.1,?_,HS.out,HBN.out⟩
    rw [List.take_succ_eq_append_getElem (by rw [List.length_set];exact hgk),List.take_succ_eq_append_getElem hlt,List.take_set_of_le (Nat.le_refl _),HG.out.2,List.getElem_set_self,HFE.out]
   case measure=>simp [intOf];omega
  ·have e:gs=fs:=by
    rw [List.take_of_length_le (by omega),List.take_of_length_le (by omega)] at hgt;exact hgt
   subst e
   go_wp2_with fail
   go_ret
   exact ⟨_,rfl,Nat.le_refl _,hw,hb⟩
theorem eqUnit_same (f:UnM) (w:World) :
  Calls Tw.prog 79 #[unv f,unv f] w fun e w'=>e = .returned (.bool true)/\Below w.heap.size w w':=by
 go_enter Tw.func79,Tw.ntmps79
 go_wp2_with fail
 go_ret
 exact ⟨rfl,((Below.refl _ _).alloc (Nat.le_refl _) _).alloc (by simp) _⟩
set_option maxHeartbeats 1000000 in
theorem eqUnitS_same (a b:Option Addr) (fs:List UnM) (ca cb:Nat) (w:World) (ha:UnRow w a fs) (hb:UnRow w b fs) (hl:fs.length<=9000000) :
  Calls Tw.prog 56 #[.slice a fs.length ca,.slice b fs.length cb] w fun e w'=>e = .returned (.bool true)/\Below w.heap.size w w':=by
 have HA:Hid (UnRow w a fs):=ha
 have HB:Hid (UnRow w b fs):=hb
 clear ha hb
 go_enter Tw.func56,Tw.ntmps56
 go_wp2_with fail
 go_loopw [5] (fun i wr=>∃ (k:Nat),i = .int .i64 k/\k<=fs.length/\Below w.heap.size w wr) (fun i _=>fs.length - (intOf i).toNat)
 case atStart=>exact ⟨0,rfl,Nat.zero_le _,Below.refl _ _⟩
 case round =>
  obtain ⟨k,rfl,hk,hbl⟩:=hrel
  by_cases hlt:k<fs.length
  ·obtain ⟨b1,o1,rfl,l1,hc1⟩:=UnRow.at (HA.out.stays hbl) (by omega)
   obtain ⟨b2,o2,rfl,l2,hc2⟩:=UnRow.at (HB.out.stays hbl) (by omega)
   obtain ⟨d0,d1,d2,d3⟩:=hc1 k hlt
   obtain ⟨e0,e1,e2,e3⟩:=hc2 k hlt
   obtain ⟨f,hfe⟩:∃ f,f=fs[k]:=⟨_,rfl⟩
   rw [<-hfe] at d0 d1 d2 d3 e0 e1 e2 e3
   have HS:Hid (Below w.heap.size w wr):=hbl
   have k0:(0:Int)<=(k:Int):=by omega
   have k1:(k:Int)<(fs.length:Int):=by omega
   clear hc1 hc2 hfe hbl
   go_wp2_with fail
   go_region_held3 (fun w'=>w'.cell? ⟨b1,o1+k*4,none⟩=some (.int .i64 f.group)/\w'.cell? ⟨b1,o1+k*4+1,none⟩=some (.int .i64 f.index)/\w'.cell? ⟨b1,o1+k*4+2,none⟩=some (.string f.text)/\w'.cell? ⟨b1,o1+k*4+3,none⟩=some (.int .i64 f.sum)/\w'.cell? ⟨b2,o2+k*4,none⟩=some (.int .i64 f.group)/\w'.cell? ⟨b2,o2+k*4+1,none⟩=some (.int .i64 f.index)/\w'.cell? ⟨b2,o2+k*4+2,none⟩=some (.string f.text)/\w'.cell? ⟨b2,o2+k*4+3,none⟩=some (.int .i64 f.sum))
    (first | go_keep | (refine ⟨?_,?_,?_,?_,?_,?_,?_,?_⟩ <;> first | (rw [hb2.cell (by exact l1)];simp [*]) | (rw [hb2.cell (by exact l2)];simp [*])))
    ((go_at_call 79;refine (eqUnit_same f _).mono ?_;rintro e w2 ⟨rfl,hb2⟩))
   all_goals go_wp2_with fail
   all_goals
    have hb3:Below w.heap.size w w2:=HS.out.trans ((Below.drew (Below.refl _ _)).trans (hb2.mono HS.out.size))
    exact ⟨⟨k+1,by go_num,by omega,hb3⟩,by simp [intOf];omega⟩
  ·have e:k=fs.length:=by omega
   subst e
   go_wp2_with fail
   go_ret
   exact ⟨rfl,hbl⟩
end Go.Proofs.YteaieagkjepgiaaGreatDoorT
/- . -/
namespace Go.Proofs.YteaieagkjepgiaaGreatDoorT.W
abbrev B32:=BitVec 32
def poly:B32:=3558460437#32
def st (x:B32):B32:=(x >>> 1) ^^^ (if x.getLsbD 0 then poly else 0#32)
def st4 (x:B32):B32:=st (st (st (st x)))
def st8 (x:B32):B32:=st4 (st4 x)
theorem st_xor (x y:B32):st (x ^^^ y)=st x ^^^ st y:=by
 unfold st
 rw [BitVec.getLsbD_xor,BitVec.ushiftRight_xor_distrib]
 generalize x >>> 1=a
 generalize y >>> 1=b
 generalize poly=p
 cases x.getLsbD 0 <;> cases y.getLsbD 0 <;> (ext i hi;simp;try (cases a[i] <;> cases b[i] <;> cases p[i] <;> rfl))
theorem st4_xor (x y:B32):st4 (x ^^^ y)=st4 x ^^^ st4 y:=by unfold st4;rw [st_xor,st_xor,st_xor,st_xor]
theorem st_even (x:B32) (h:x.getLsbD 0=false):st x=x >>> 1:=by unfold st;rw [h];simp
theorem st4_high (x:B32) (h0:x.getLsbD 0=false) (h1:x.getLsbD 1=false) (h2:x.getLsbD 2=false) (h3:x.getLsbD 3=false):st4 x=x >>> 4:=by
 unfold st4
 rw [st_even x h0,st_even (x >>> 1) (by simpa using h1),st_even (x >>> 1 >>> 1) (by simpa [BitVec.getLsbD_ushiftRight] using h2),st_even (x >>> 1 >>> 1 >>> 1) (by simpa [BitVec.getLsbD_ushiftRight] using h3)]
 simp [<-BitVec.shiftRight_add]
def tab (n:Nat):Nat:=(st4 (BitVec.ofNat 32 n)).toNat
theorem tab_all:(List.range 16).map tab=[0,1166650509,2333301018,3466261911,3189058079,4221339282,889615109,1888477064,3558460437,2442158232,1594529039,444807554,1779230218,797264519,3776954128,2761298845]:=by decide +kernel
theorem st4_low (x:B32):st4 x=(x >>> 4) ^^^ st4 (x &&& 15#32):=by
 have e:x=(x &&& ~~~(15#32)) ^^^ (x &&& 15#32):=by
  ext i hi;simp only [BitVec.getElem_xor,BitVec.getElem_and,BitVec.getElem_not]
  cases x[i] <;> cases (15#32)[i] <;> rfl
 have h:st4 (x &&& ~~~(15#32))=x >>> 4:=by
  rw [st4_high]
  ·ext i hi
   simp only [BitVec.getElem_ushiftRight,BitVec.getLsbD_and,BitVec.getLsbD_not]
   by_cases h:4+i<32
   ·have:(15#32).getLsbD (4+i)=false:=by
     have:i<28:=by omega
     have hall:∀ j:Fin 28,(15#32).getLsbD (4+j.val)=false:=by decide
     exact hall ⟨i,this⟩
    simp only [this,h];simp [BitVec.getLsbD_eq_getElem h]
   ·simp [BitVec.getLsbD_of_ge x (4+i) (by omega)]
  all_goals simp
 have h2:=st4_xor (x &&& ~~~(15#32)) (x &&& 15#32)
 rw [h] at h2
 rw [<-e] at h2
 exact h2
def stN:Nat->B32->B32
 | 0,z=>z
 | j+1,z=>st (stN j z)
theorem st8_N (z:B32):stN 8 z=st8 z:=rfl
def by32 (b:UInt8):B32:=BitVec.ofNat 32 b.toNat
def crc (s:B32) (l:List UInt8):B32:=l.foldl (fun s b=>st8 (s ^^^ by32 b)) s
theorem crc_snoc (s:B32) (l:List UInt8) (b:UInt8):crc s (l++[b])=st8 (crc s l ^^^ by32 b):=by simp [crc]
def four (x:B32):List UInt8:=[UInt8.ofNat (x.toNat / 16777216),UInt8.ofNat (x.toNat / 65536),UInt8.ofNat (x.toNat / 256),UInt8.ofNat x.toNat]
end Go.Proofs.YteaieagkjepgiaaGreatDoorT.W
namespace Go.Proofs.YteaieagkjepgiaaGreatDoorT
set_option maxRecDepth 100000
open Go.RowKit
open W (B32)
abbrev u32 (x:B32):Value:=.int .u32 (x.toNat:Int)
theorem u32_lt (x:B32):(0:Int)<=(x.toNat:Int)/\(x.toNat:Int)<4294967296:=⟨by omega,by have:=x.isLt;omega⟩
theorem u32_wrap (x:B32):IntKind.u32.wrap (x.toNat:Int)=(x.toNat:Int):=by
 have:=x.isLt
 simp [IntKind.wrap,IntKind.bits,IntKind.signed];omega
theorem u32_back (x:B32):BitVec.ofInt IntKind.u32.bits (x.toNat:Int)=x:=by
 show BitVec.ofInt 32 (x.toNat:Int)=x
 simp
theorem u32_xor (x y:B32):bits .xor .u32 (x.toNat:Int) (y.toNat:Int)=((x ^^^ y).toNat:Int):=by
 unfold bits
 simp only [u32_back]
 exact u32_wrap (x ^^^ y)
theorem u32_and (x y:B32):bits .and .u32 (x.toNat:Int) (y.toNat:Int)=((x &&& y).toNat:Int):=by
 unfold bits
 simp only [u32_back]
 exact u32_wrap (x &&& y)
theorem u32_shr (x:B32) (n:Nat):(x.toNat:Int) / 2 ^ n=((x >>> n).toNat:Int):=by
 rw [BitVec.toNat_ushiftRight,Nat.shiftRight_eq_div_pow]
 norm_cast
theorem u32_byte (y:B32) (b:UInt8):bits .xor .u32 (y.toNat:Int) (b.toNat:Int)=((y ^^^ W.by32 b).toNat:Int):=by
 have h:=u32_xor y (W.by32 b)
 have e:(W.by32 b).toNat=b.toNat:=by have:=b.toNat_lt;simp [W.by32]
 rw [e] at h
 exact h
theorem u32_odd (y:B32):(y.toNat:Int).tmod 2=if y.getLsbD 0 then 1 else 0:=by
 rw [Int.tmod_eq_emod_of_nonneg (by omega)]
 have e:y.getLsbD 0=decide (y.toNat % 2=1):=by
  rw [BitVec.getLsbD,Nat.testBit_zero]
 rw [e]
 by_cases h:y.toNat % 2=1 <;> simp [h] <;> omega
theorem u32_half (y:B32):(y.toNat:Int).tdiv 2=((y >>> 1).toNat:Int):=by
 rw [Int.tdiv_eq_ediv_of_nonneg (by omega)]
 exact u32_shr y 1
theorem u32_poly (y:B32):bits .xor .u32 ((y >>> 1).toNat:Int) 3558460437=(((y >>> 1) ^^^ W.poly).toNat:Int):=u32_xor (y >>> 1) W.poly
end Go.Proofs.YteaieagkjepgiaaGreatDoorT
/- . -/
namespace Go.Proofs.YteaieagkjepgiaaGreatDoorT.W
open Go.PlainAid (bt)
def hfI (x:Int):Int:=if x<10 then 48+x else 87+x
def hf (n:Nat):UInt8:=UInt8.ofNat (hfI n).toNat
def firstK (s:ByteArray) (k:Nat):List UInt8:=s.data.toList.take k
theorem firstK_all (s:ByteArray) (k:Nat) (h:s.size<=k):firstK s k=s.data.toList:=by
 have e:s.data.size=s.size:=rfl
 unfold firstK;exact List.take_of_length_le (by simp;omega)
theorem firstK_step (s:ByteArray) (k:Nat) (h:k<s.size):∃ b:UInt8,firstK s (k+1)=firstK s k++[b]/\bt s k=(b.toNat:Int):=by
 refine ⟨s[k],?_,?_⟩
 ·unfold firstK;rw [List.take_succ_eq_append_getElem (by simpa using h)];rfl
 ·unfold bt;rw [dif_pos h]
end Go.Proofs.YteaieagkjepgiaaGreatDoorT.W
namespace Go.Proofs.YteaieagkjepgiaaGreatDoorT
set_option maxRecDepth 100000
open Go.RowKit
open Go.PlainAid (bt)
theorem index_str (s:ByteArray) (k:Nat) (h:k<s.size) (w:World) :
  (Instr.index 9 (.string s) (.int .i64 (k:Int))).run Tw.prog w = .ok (.int .u8 (bt s k)) w:=by
 have hb:=Go.PlainAid.get_bt s k h
 rw [run_index_string _ 9 s .i64 k Tw.underlying9,dif_pos ⟨by omega,by omega⟩,<-hb]
 rfl
end Go.Proofs.YteaieagkjepgiaaGreatDoorT
