/- Texts of ours, laid one behind the other: SpnE, MapA, LkP, LkA, LkB, LkC, LkD, PaI, PaJ, StrW, OffA, GuardA, OffB, PaK, LawPth, Draw, DrawB, DrawP, DrPk, DrPth, FrT, OpenC, LawPts, PaL, ImA. -/
import Derived.Test.YtackbhpgdohimaaGreatDoorQk4
import Derived.Test.YtackbhpgdohimaaGreatDoorQk1
import Derived.Test.YtackbhpgdohimaaGreatDoorQk3
import Derived.Maps.OwnSet
import Derived.Maps.RangeWalk
import Derived.WalkKit
import Derived.Maps.OwnOps
import Derived.Deep.CutRange
import Derived.WalkSmall
import Derived.Laws.RangeAny
import Derived.Test.YtackbhpgdohimaaGreatDoorRows
import Derived.Maps.AppendAt
import Derived.ArgAppend
import Derived.Test.YtackbhpgdohimaaGreatDoorQkShf
import Derived.PlainAid
import Derived.Deep.QuietTactic
import Derived.BigQuiet
import Derived.Deep.RegionHeld3
import Derived.Deep.DrawnRows
import Derived.OwnWalk
import Derived.OpenShut
import Derived.Sort.KeysCollected
import Derived.Sort.Walk0
/- SpnE: . -/
namespace Go.Proofs.YtackbhpgdohimaaGreatDoor
set_option maxRecDepth 100000
set_option maxHeartbeats 16000000
open Go.RowKit
attribute [local go_sem ↓] Go.wp_at_zero Go.wp_at_succ
theorem spansX_len (s n:Int):(qaw s n).length<=1001:=by
 unfold qaw;split
 ·rename_i h
  unfold spanL;rw [List.length_append,List.length_replicate,List.length_singleton];have:=Nat.div_le_self (n.toNat - 1) (qbl s);omega
 ·exact Nat.zero_le _
section
open Go.Maps
def ptrE:Value->Option (DataW Unit × List MemPlace)
 | .pointer (some ⟨g,0,none⟩)=>some (.lit (.int .i64 g),[])
 | .pointer none=>some (.nil,[])
 | _=>none
def mapE:Value->Option (DataW Unit × List MemPlace)
 | .map (some g)=>some (.lit (.int .i64 g),[])
 | .map none=>some (.nil,[])
 | _=>none
def ptrV:Option Nat->Value
 | some g=>.pointer (some ⟨g,0,none⟩)
 | none=>.pointer none
def mapV:Option Nat->Value
 | some g=>.map (some g)
 | none=>.map none
theorem qkm {v:Value} {y:DataW Unit × List MemPlace} (h:ptrE v=some y):∃ c,v=ptrV c:=by
 unfold ptrE at h;split at h
 ·exact ⟨some _,rfl⟩
 ·exact ⟨none,rfl⟩
 ·cases h
theorem qog {v:Value} {g:Nat} {ps:List MemPlace} (h:ptrE v=some (.lit (.int .i64 g),ps)):v=ptrV (some g):=by
 obtain ⟨c,rfl⟩:=qkm h
 cases c with
 | none=>simp [ptrV,ptrE] at h
 | some c=>simp [ptrV,ptrE] at h;rw [show c=g by omega]
theorem ptrE_none {v:Value} {ps:List MemPlace} (h:ptrE v=some (.nil,ps)):v=ptrV none:=by
 obtain ⟨c,rfl⟩:=qkm h
 cases c with
 | none=>rfl
 | some c=>simp [ptrV,ptrE] at h
theorem qoh {v:Value} {y:DataW Unit × List MemPlace} (h:mapE v=some y):∃ c,v=mapV c:=by
 unfold mapE at h;split at h
 ·exact ⟨some _,rfl⟩
 ·exact ⟨none,rfl⟩
 ·cases h
theorem mapE_some {v:Value} {g:Nat} {ps:List MemPlace} (h:mapE v=some (.lit (.int .i64 g),ps)):v=mapV (some g):=by
 obtain ⟨c,rfl⟩:=qoh h
 cases c with
 | none=>simp [mapV,mapE] at h
 | some c=>simp [mapV,mapE] at h;rw [show c=g by omega]
theorem mapE_none {v:Value} {ps:List MemPlace} (h:mapE v=some (.nil,ps)):v=mapV none:=by
 obtain ⟨c,rfl⟩:=qoh h
 cases c with
 | none=>rfl
 | some c=>simp [mapV,mapE] at h
abbrev ks (n:ByteArray):Lit:=.string n.data.toList
abbrev ki (x:Int):Lit:=.int .i64 x
theorem ks_inj {m n:ByteArray} (h:ks m=ks n):m=n:=ByteArray.ext (Array.toList_inj.1 (by simpa using h))
theorem qrw {m n:Int} (h:ki m=ki n):m=n:=by simpa using h
def Tells (D:DataW Unit) (l:Lit) (o:Option Nat):Prop:=match o with
 | some g=>∀ z,D.atKey l z = .lit (.int .i64 g)
 | none=>Maps.has D l=false
theorem Tells.at {D:DataW Unit} {l:Lit} {g:Nat} (h:Tells D l (some g)):D.atKey l .nil = .lit (.int .i64 g):=h .nil
theorem Tells.no {D:DataW Unit} {l:Lit} (h:Tells D l none):D.atKey l .nil = .nil:=Maps.atKey_of_not_has h .nil
theorem Tells.has {D:DataW Unit} {l:Lit} {o:Option Nat} (h:Tells D l o):Maps.has D l=o.isSome:=by
 cases o with
 | some g=>exact Maps.has_true_of_atKey h
 | none=>exact h
theorem Tells.put_same {D:DataW Unit} {l:Lit} {g:Nat} (hm:Maps.IsMap D) (hk:WideAt.IsKeyLit l):Tells (D.put l (.lit (.int .i64 g))) l (some g):=fun z=>Maps.atKey_put_same hm hk _ z
theorem Tells.put_other {D:DataW Unit} {l l':Lit} {o:Option Nat} {d:DataW Unit} (h:Tells D l o) (hne:l ≠ l'):Tells (D.put l' d) l o:=by
 cases o with
 | some g=>exact fun z=>by rw [Maps.atKey_put_other hne];exact h z
 | none=>exact (Maps.has_put_other hne _).trans h
theorem own_drewN {w:World} {P:Program} {k:TypeId} {R:Value->Option (DataW Unit × List MemPlace)} {b n:Nat} {D:DataW Unit} (h:w.ownsMap P k R b n D) (q:Nat):(w.drewN q).ownsMap P k R b n D:=h
theorem own_below {w w':World} {P:Program} {k:TypeId} {R:Value->Option (DataW Unit × List MemPlace)} {b n:Nat} {D:DataW Unit} (h:w.ownsMap P k R b n D) (hb:Below w.heap.size w w'):w'.ownsMap P k R b n D:=
 h.kept (row:=none) ⟨hb.os,hb.tape,hb.output,hb.size,fun k hk _=>hb.block k hk⟩ (by simp)
theorem own_turned {w w':World} {P:Program} {k:TypeId} {R:Value->Option (DataW Unit × List MemPlace)} {b n c:Nat} {D:DataW Unit} (h:w.ownsMap P k R b n D) (ht:w.mapTurned w' c) (hne:b ≠ c):w'.ownsMap P k R b n D:=
 h.kept ht.grown (by simpa using hne)
theorem qfx {w w':World} {b g:Nat} {L:List Value} (h:WCells w g L) (ht:w.mapTurned w' b):WCells w' g L:=by
 refine ⟨Nat.lt_of_lt_of_le h.1 ht.grown.size,fun i v hv=>?_⟩;have h1:=h.2 i v hv
 have hne:g ≠ b:=by
  rintro rfl;obtain ⟨es,clock,_,_,hb,_⟩:=ht;have:=h1.1;simp [World.cell?,hb] at this
 have hk:=ht.grown.block g h.1 (by simpa using hne);constructor
 ·have:=h1.1
  simp only [World.cell?,hk] at this ⊢;exact this
 ·have:=h1.2
  simp only [World.frozen?,hk] at this ⊢;exact this
section
variable {P:Program} {w:World} {k e t:TypeId} {b n:Nat} {D:DataW Unit} {key:Value} {l:Lit} {o:Option Nat}
theorem qdu (K:Keyed P k) (ht:P.underlying t=some (.map k e)) (hz:∀ w,(zeroValue e).run P w = .ok (.pointer none) w) (h:w.ownsMap P k ptrE b n D) (hkey:keyOf P k key=some l) (ho:Tells D l o) (q:Nat) :
  (Instr.lookup t (.map (some b)) key false).run P (w.drewN q) = .ok (ptrV o) (w.drewN q):=by
 obtain ⟨v,ps,hrun,hv⟩:=(own_drewN h q).lookup K ht (hz _) (zd:=.nil) (zp:=[]) rfl hkey
 cases o with
 | some g=>rw [ho.at] at hv;rw [hrun,qog hv]
 | none=>rw [ho.no] at hv;rw [hrun,ptrE_none hv]
theorem qhr (K:Keyed P k) (ht:P.underlying t=some (.map k e)) (hz:∀ w,(zeroValue e).run P w = .ok (.map none) w) (h:w.ownsMap P k mapE b n D) (hkey:keyOf P k key=some l) (ho:Tells D l o) (q:Nat) :
  (Instr.lookup t (.map (some b)) key false).run P (w.drewN q) = .ok (mapV o) (w.drewN q):=by
 obtain ⟨v,ps,hrun,hv⟩:=(own_drewN h q).lookup K ht (hz _) (zd:=.nil) (zp:=[]) rfl hkey
 cases o with
 | some g=>rw [ho.at] at hv;rw [hrun,mapE_some hv]
 | none=>rw [ho.no] at hv;rw [hrun,mapE_none hv]
end
end
section
variable {s:ByteArray} {id p:Int} {ns:List NM} {i:Nat}
def fid (ns:List NM) (id:Int):Option Nat:=ns.findIdx? (fun n=>n.id==id)
def fnm (ns:List NM) (p:Int) (s:ByteArray):Option Nat:=ns.findIdx? (fun n=>n.parent==p&&decide (n.name=s))
theorem find_take {α:Type} (P:α->Bool) (xs:List α) (k:Nat) (h:k<xs.length):(xs.take (k+1)).findIdx? P=match (xs.take k).findIdx? P with
  | some i=>some i
  | none=>if P xs[k]=true then some k else none:=by
 rw [List.take_succ_eq_append_getElem h,List.findIdx?_append]
 cases hf:(xs.take k).findIdx? P with
 | some i=>simp
 | none =>
  simp only [List.findIdx?_cons,List.findIdx?_nil,Option.none_or];have:(xs.take k).length=k:=by simp;omega
  by_cases hp:P xs[k]=true
  ·simp [hp,this]
  ·simp [hp]
theorem qck (h:fid ns id=some i):∃ hi:i<ns.length,ns[i].id=id:=by
 obtain ⟨hi,h1,_⟩:=List.findIdx?_eq_some_iff_getElem.1 h;exact ⟨hi,by simpa using h1⟩
theorem fid_none (h:fid ns id=none):∀ n ∈ ns,n.id ≠ id:=fun n hn=>by simpa using List.findIdx?_eq_none_iff.1 h n hn
theorem fid_of (hi:i<ns.length) (h:∀ j,j<i->∀ hj:j<ns.length,ns[j].id ≠ ns[i].id):fid ns ns[i].id=some i:=
 List.findIdx?_eq_some_iff_getElem.2 ⟨hi,by simp,fun j hj=>by simpa using h j hj (by omega)⟩
theorem qlt (h:fnm ns p s=some i):∃ hi:i<ns.length,ns[i].parent=p/\ns[i].name=s:=by
 obtain ⟨hi,h1,_⟩:=List.findIdx?_eq_some_iff_getElem.1 h;exact ⟨hi,by simpa using h1⟩
theorem qqf (h:fnm ns p s=none):∀ n ∈ ns,n.parent=p->n.name ≠ s:=fun n hn=>by simpa using List.findIdx?_eq_none_iff.1 h n hn
theorem qob (h:fnm ns p s=some i):∀ j,j<i->∀ hj:j<ns.length,ns[j].parent=p->ns[j].name ≠ s:=by
 obtain ⟨hi,h1,h2⟩:=List.findIdx?_eq_some_iff_getElem.1 h;exact fun j hj hjl=>by simpa using h2 j hj
theorem qoc (ns:List NM) (id:Int):atI ns id=match fid ns id with
  | some i=>(i:Int)
  | none=>-1:=rfl
inductive Ups (ns:List NM):Nat->Nat->Prop
 | root:Ups ns 0 0
 | step {i k d:Nat}:i<ns.length->i ≠ 0->fid ns (ns.getD i default).parent=some k->Ups ns k d->Ups ns i (d+1)
def Asc (ns:List NM):Prop:=(∀ i (hi:i<ns.length),0<i->(ns.getD (i - 1) default).id<ns[i].id)/\0<ns.length/\(ns.getD 0 default).id=1/\(ns.getD 0 default).parent=0
theorem Asc.lt (h:Asc ns):∀ j (hj:j<ns.length) i,i<j->(ns.getD i default).id<ns[j].id:=by
 intro j
 induction j with
 | zero=>intro _ i hi;omega
 | succ j ih =>
  intro hj i hi;have h1:=h.1 (j+1) hj (by omega);simp only [Nat.add_sub_cancel] at h1;rcases Nat.lt_or_ge i j with hl | hg
  ·have h2:=ih (by omega) i hl
   have e:(ns.getD j default)=ns[j]:=by simp [List.getD,(by omega:j<ns.length)]
   rw [e] at h1;omega
  ·obtain rfl:i=j:=by omega
   exact h1
theorem getD_in (hi:i<ns.length):ns.getD i default=ns[i]:=by simp [List.getD,hi]
theorem Asc.fid (h:Asc ns) {i:Nat} (hi:i<ns.length):fid ns ns[i].id=some i:=
 fid_of hi fun j hj hjl=>by have:=h.lt i hi j hj;rw [getD_in hjl] at this;omega
theorem Asc.pos (h:Asc ns) {i:Nat} (hi:i<ns.length):1<=ns[i].id:=by
 rcases Nat.eq_zero_or_pos i with rfl | hp
 ·have:=h.2.2.1
  rw [getD_in hi] at this;omega
 ·have:=h.lt i hi 0 hp
  rw [h.2.2.1] at this;omega
theorem Asc.zero (h:Asc ns):Go.Proofs.YtackbhpgdohimaaGreatDoor.fid ns 0=none:=by
 cases hf:Go.Proofs.YtackbhpgdohimaaGreatDoor.fid ns 0 with
 | none=>rfl
 | some i =>
  obtain ⟨hi,e⟩:=qck hf;have:=h.pos hi;omega
theorem Asc.one (h:Asc ns):Go.Proofs.YtackbhpgdohimaaGreatDoor.fid ns 1=some 0:=by
 have:=h.fid h.2.1;rw [<-getD_in h.2.1,h.2.2.1] at this;exact this
theorem climbs_ups (h:Asc ns):∀ (f:Nat) (id:Int) (i:Nat),climbs ns f id=true->Go.Proofs.YtackbhpgdohimaaGreatDoor.fid ns id=some i->i ≠ 0->∃ d,d<=f/\Ups ns i d:=by
 intro f
 induction f with
 | zero=>intro id i hc;simp [climbs] at hc
 | succ f ih =>
  intro id i hc hi h0;unfold climbs at hc;unfold Go.Proofs.YtackbhpgdohimaaGreatDoor.fid at hi;rw [hi] at hc;dsimp only at hc;obtain ⟨hil,_⟩:=qck (ns:=ns) hi
  by_cases h1:(ns.getD i default).parent=1
  ·exact ⟨1,by omega,Ups.step hil h0 (by rw [h1];exact h.one) Ups.root⟩
  ·rw [if_neg h1] at hc
   cases hk:Go.Proofs.YtackbhpgdohimaaGreatDoor.fid ns (ns.getD i default).parent with
   | none =>
    cases f with
    | zero=>simp [climbs] at hc
    | succ f =>
     unfold climbs at hc;unfold Go.Proofs.YtackbhpgdohimaaGreatDoor.fid at hk;rw [hk] at hc;cases hc
   | some k =>
    by_cases hk0:k=0
    ·subst hk0
     have:=qck hk;obtain ⟨hl,e⟩:=this;rw [<-getD_in hl,h.2.2.1] at e;exact absurd e.symm h1
    ·obtain ⟨d,hd,hu⟩:=ih _ k hc hk hk0
     exact ⟨d+1,by omega,Ups.step hil h0 hk hu⟩
theorem ups_climbs (h:Asc ns):∀ (f i d:Nat),Ups ns i d->i ≠ 0->d<=f->climbs ns f (ns.getD i default).id=true:=by
 intro f
 induction f with
 | zero =>
  intro i d hu h0 hd
  cases hu with
  | root=>exact absurd rfl h0
  | step=>omega
 | succ f ih =>
  intro i d hu h0 hd
  cases hu with
  | root=>exact absurd rfl h0
  | @step _ k d' hil _ hk hu' =>
   unfold climbs;have e:=h.fid hil;rw [<-getD_in hil] at e;unfold Go.Proofs.YtackbhpgdohimaaGreatDoor.fid at e;rw [e];dsimp only;split
   ·rfl
   ·rename_i hne
    obtain ⟨hkl,ek⟩:=qck hk;rw [<-ek,<-getD_in hkl];refine ih k d' hu' (fun e0=>hne ?_) (by omega);subst e0;rw [<-ek,<-getD_in hkl];exact h.2.2.1
theorem Ups.det {i d e:Nat} (h:Ups ns i d) (h':Ups ns i e):d=e:=by
 induction h generalizing e with
 | root =>
  cases h' with
  | root=>rfl
  | step _ h0=>exact absurd rfl h0
 | step _ h0 hk _ ih =>
  cases h' with
  | root=>exact absurd rfl h0
  | step _ _ hk' hu' =>
   rw [hk] at hk';cases hk';rw [ih hu']
end
section
open Go.Maps
variable {s:ByteArray} {id p:Int} {ns:List NM} {rs:List NR} {n:NM} {r:NR} {B b1 b2 g i:Nat} {w w':World}
theorem keyI:Keyed Tryz.prog 3:=int_keyed Tryz.underlying3
theorem keyS:Keyed Tryz.prog 9:=string_keyed Tryz.underlying9
theorem qhn (w:World):(zeroValue 194).run Tryz.prog w = .ok (.pointer none) w:=by kernel_rfl
theorem qnx (w:World):(zeroValue 195).run Tryz.prog w = .ok (.map none) w:=by kernel_rfl
theorem qcs {x:Int} (h:(Lit.int .i64 x).wf=true):keyOf Tryz.prog 3 (.int .i64 x)=some (ki x):=keyOf_int_mk Tryz.underlying3 h
theorem qkf (h:s.size<=maxLen):keyOf Tryz.prog 9 (.string s)=some (ks s):=Go.WideMaps.keyOf_string_mk Tryz.underlying9 h
theorem eqg_ptr (x y:Operand) (o:Option Nat) (W:World):Sem.run Tryz.prog (eqGuard BinOp.eql 194 x y (ptrV o) (.pointer none)) W = .ok () W:=by
 cases o <;> simp [ptrV,eqGuard,go_sem]
theorem eq_ptr (o:Option Nat) (W:World):Sem.run Tryz.prog (binOp BinOp.eql 194 (ptrV o) (.pointer none)) W = .ok (.bool o.isNone) W:=by
 cases o <;> simp [ptrV,go_sem]
theorem eqg_map (x y:Operand) (o:Option Nat) (W:World):Sem.run Tryz.prog (eqGuard BinOp.eql 195 x y (mapV o) (.map none)) W = .ok () W:=by
 cases o <;> simp [mapV,eqGuard,go_sem]
theorem eq_map (o:Option Nat) (W:World):Sem.run Tryz.prog (binOp BinOp.eql 195 (mapV o) (.map none)) W = .ok (.bool o.isNone) W:=by
 cases o <;> kernel_rfl
def qey (r:NR) (p:Value):List Value:=[.int .i64 r.nd.id,.int .i64 r.nd.parent,.string r.nd.name,.bool r.nd.dir,.int .i64 r.nd.schema,.int .i64 r.nd.quota,.int .i64 r.nd.len,.slice r.loc r.nd.pieces.length r.cap,.int .i64 r.nd.writer,p]
def Par (ns:List NM) (p:Int):Prop:=∃ n ∈ ns,n.parent=p
theorem qrq (h:fnm ns p s=some i):Par ns p:=by
 obtain ⟨hi,e,_⟩:=qlt h;exact ⟨_,List.getElem_mem hi,e⟩
structure Lk (w:World) (B b1 b2:Nat) (rs:List NR) (G:Nat->Nat) (C:Int->Nat) (A:Nat->Option Nat):Prop where
 m1:∃ D,w.ownsMap Tryz.prog 3 ptrE b1 rs.length D/\∀ id,Tells D (ki id) ((fid (nds rs) id).map G)
 m2:∃ D,w.ownsMap Tryz.prog 3 mapE b2 rs.length D/\∀ p,(Par (nds rs) p->Tells D (ki p) (some (C p)))/\(¬ Par (nds rs) p->Tells D (ki p) none)
 m3:∀ p,Par (nds rs) p->B<=C p/\C p ≠ b1/\C p ≠ b2/\∃ D,w.ownsMap Tryz.prog 9 ptrE (C p) rs.length D/\∀ s,Tells D (ks s) ((fnm (nds rs) p s).map G)
 inj:∀ p q,Par (nds rs) p->Par (nds rs) q->C p=C q->p=q
 cells:∀ i (hi:i<rs.length),WCells w (G i) (qey rs[i] (ptrV ((A i).map G)))/\B<=G i
 one:∀ i j,i<rs.length->j<rs.length->G i=G j->i=j
 lo:B<=b1/\B<=b2/\b1 ≠ b2
def Kept (w w':World):Prop:=∀ g L,WCells w g L->WCells w' g L
theorem Kept.trans {a b c:World} (h:Kept a b) (h':Kept b c):Kept a c:=fun g L hg=>h' g L (h g L hg)
theorem Kept.below (h:Below w.heap.size w w'):Kept w w':=fun _ _ hg=>hg.grow h
theorem Kept.turned {b:Nat} (h:w.mapTurned w' b):Kept w w':=fun _ _ hg=>qfx hg h
theorem Lk.below {G:Nat->Nat} {C:Int->Nat} {A:Nat->Option Nat} (h:Lk w B b1 b2 rs G C A) (hb:Below w.heap.size w w'):Lk w' B b1 b2 rs G C A:=by
 obtain ⟨⟨D1,o1,t1⟩,⟨D2,o2,t2⟩,m3,inj,cells,one,lo⟩:=h;refine ⟨⟨D1,own_below o1 hb,t1⟩,⟨D2,own_below o2 hb,t2⟩,fun p hp=>?_,inj,fun i hi=>⟨(cells i hi).1.grow hb,(cells i hi).2⟩,one,lo⟩;obtain ⟨q1,q2,q3,D,o3,t3⟩:=m3 p hp;exact ⟨q1,q2,q3,D,own_below o3 hb,t3⟩
theorem Lk.lt {G:Nat->Nat} {C:Int->Nat} {A:Nat->Option Nat} (h:Lk w B b1 b2 rs G C A):b1<w.heap.size/\b2<w.heap.size/\(∀ i,i<rs.length->G i<w.heap.size)/\∀ p,Par (nds rs) p->C p<w.heap.size:=by
 obtain ⟨⟨D1,o1,_⟩,⟨D2,o2,_⟩,m3,inj,cells,one,lo⟩:=h;refine ⟨o1.lt,o2.lt,fun i hi=>(cells i hi).1.1,fun p hp=>?_⟩;obtain ⟨_,_,_,D,o3,_⟩:=m3 p hp;exact o3.lt
theorem Lk.start {G:Nat->Nat} {C:Int->Nat} {A:Nat->Option Nat} (h1:w.ownsMap Tryz.prog 3 ptrE b1 0 (.map [])) (h2:w.ownsMap Tryz.prog 3 mapE b2 0 (.map [])) (lo:B<=b1/\B<=b2/\b1 ≠ b2):Lk w B b1 b2 [] G C A:=
 ⟨⟨_,h1,fun _=>rfl⟩,⟨_,h2,fun _=>⟨fun ⟨_,h,_⟩=>by simp [nds] at h,fun _=>rfl⟩⟩,fun _ ⟨_,h,_⟩=>by simp [nds] at h,fun _ _ ⟨_,h,_⟩=>by simp [nds] at h,fun i hi=>absurd hi (by simp),fun i j hi=>absurd hi (by simp),lo⟩
def Gn (G:Nat->Nat) (n g:Nat):Nat->Nat:=fun i=>if i=n then g else G i
theorem qkg {G:Nat->Nat} {n g i:Nat} (h:i<n):Gn G n g i=G i:=if_neg (by omega)
theorem qny {G:Nat->Nat} {n g:Nat}:Gn G n g n=g:=if_pos rfl
theorem qnz {α:Type} (P:α->Bool) (xs:List α) (x:α):(xs++[x]).findIdx? P=match xs.findIdx? P with
  | some i=>some i
  | none=>if P x=true then some xs.length else none:=by
 rw [List.findIdx?_append]
 cases hf:xs.findIdx? P with
 | some i=>simp
 | none =>
  simp only [List.findIdx?_cons,List.findIdx?_nil,Option.none_or]
  by_cases hp:P x=true
  ·simp [hp]
  ·simp [hp]
theorem fid_snoc:fid (ns++[n]) id=match fid ns id with
  | some i=>some i
  | none=>if n.id=id then some ns.length else none:=by
 unfold fid;rw [qnz]
 cases ns.findIdx? (fun n=>n.id==id) with
 | some i=>rfl
 | none=>simp
theorem fnm_snoc:fnm (ns++[n]) p s=match fnm ns p s with
  | some i=>some i
  | none=>if n.parent=p/\n.name=s then some ns.length else none:=by
 unfold fnm;rw [qnz]
 cases ns.findIdx? (fun n=>n.parent==p&&decide (n.name=s)) with
 | some i=>rfl
 | none=>simp
theorem fid_map_snoc {G:Nat->Nat}:(fid (nds (rs++[r])) id).map (Gn G rs.length g)=match fid (nds rs) id with
  | some i=>some (G i)
  | none=>if r.nd.id=id then some g else none:=by
 rw [qci,fid_snoc]
 cases h:fid (nds rs) id with
 | some i =>
  obtain ⟨hi,_⟩:=qck h;rw [qaf] at hi;simp [qkg hi]
 | none =>
  dsimp only;split
  ·simp [qaf,qny]
  ·rfl
theorem fnm_map_snoc {G:Nat->Nat}:(fnm (nds (rs++[r])) p s).map (Gn G rs.length g)=match fnm (nds rs) p s with
  | some i=>some (G i)
  | none=>if r.nd.parent=p/\r.nd.name=s then some g else none:=by
 rw [qci,fnm_snoc]
 cases h:fnm (nds rs) p s with
 | some i =>
  obtain ⟨hi,_⟩:=qlt h;rw [qaf] at hi;simp [qkg hi]
 | none =>
  dsimp only;split
  ·simp [qaf,qny]
  ·rfl
theorem par_snoc:Par (ns++[n]) p↔Par ns p\/n.parent=p:=by
 unfold Par;constructor
 ·rintro ⟨m,hm,e⟩
  rcases List.mem_append.1 hm with h | h
  ·exact .inl ⟨m,h,e⟩
  ·obtain rfl:=List.mem_singleton.1 h
   exact .inr e
 ·rintro (⟨m,hm,e⟩ | e)
  ·exact ⟨m,by simp [hm],e⟩
  ·exact ⟨n,by simp,e⟩
theorem Lk.snoc {G:Nat->Nat} {C C':Int->Nat} (h:Lk w B b1 b2 rs G C fun _=>none) (hk:Kept w w') (hn:WCells w' g (qey r (.pointer none))) (hg:∀ i,i<rs.length->G i ≠ g) (hB:B<=g)
  (h1:∃ D,w'.ownsMap Tryz.prog 3 ptrE b1 (rs.length+1) D/\∀ id,Tells D (ki id) (match fid (nds rs) id with | some i=>some (G i) | none=>if r.nd.id=id then some g else none))
  (h2:∃ D,w'.ownsMap Tryz.prog 3 mapE b2 (rs.length+1) D/\∀ p,(Par (nds rs) p\/r.nd.parent=p->Tells D (ki p) (some (C' p)))/\(¬ (Par (nds rs) p\/r.nd.parent=p)->Tells D (ki p) none))
  (h3:∀ p,Par (nds rs) p\/r.nd.parent=p->B<=C' p/\C' p ≠ b1/\C' p ≠ b2/\∃ D,w'.ownsMap Tryz.prog 9 ptrE (C' p) (rs.length+1) D/\∀ s,Tells D (ks s) (match fnm (nds rs) p s with | some i=>some (G i) | none=>if r.nd.parent=p/\r.nd.name=s then some g else none))
  (h4:∀ p q,(Par (nds rs) p\/r.nd.parent=p)->(Par (nds rs) q\/r.nd.parent=q)->C' p=C' q->p=q):Lk w' B b1 b2 (rs++[r]) (Gn G rs.length g) C' fun _=>none:=by
 have hl:(rs++[r]).length=rs.length+1:=by simp
 refine ⟨?_,?_,fun p hp=>?_,fun p q hp hq e=>?_,fun i hi=>?_,fun i j hi hj e=>?_,h.lo⟩
 ·obtain ⟨D,o,t⟩:=h1
  exact ⟨D,by rw [hl];exact o,fun id=>by rw [fid_map_snoc];exact t id⟩
 ·obtain ⟨D,o,t⟩:=h2
  refine ⟨D,by rw [hl];exact o,fun p=>?_⟩;rw [qci];exact ⟨fun hp=>(t p).1 (par_snoc.1 hp),fun hp=>(t p).2 fun hp'=>hp (par_snoc.2 hp')⟩
 ·rw [qci,par_snoc] at hp
  obtain ⟨q1,q2,q3,D,o,t⟩:=h3 p hp;exact ⟨q1,q2,q3,D,by rw [hl];exact o,fun s=>by rw [fnm_map_snoc];exact t s⟩
 ·rw [qci,par_snoc] at hp hq
  exact h4 p q hp hq e
 ·rw [hl] at hi
  rcases Nat.lt_or_ge i rs.length with hlt | hge
  ·rw [List.getElem_append_left hlt,qkg hlt]
   exact ⟨hk _ _ (h.cells i hlt).1,(h.cells i hlt).2⟩
  ·obtain rfl:i=rs.length:=by omega
   rw [List.getElem_append_right zL,qny];exact ⟨by simpa [ptrV] using hn,hB⟩
 ·rw [hl] at hi hj
  rcases Nat.lt_or_ge i rs.length with hli | hgi <;> rcases Nat.lt_or_ge j rs.length with hlj | hgj
  ·rw [qkg hli,qkg hlj] at e
   exact h.one i j hli hlj e
  ·obtain rfl:j=rs.length:=by omega
   rw [qkg hli,qny] at e;exact absurd e (hg i hli)
  ·obtain rfl:i=rs.length:=by omega
   rw [qkg hlj,qny] at e;exact absurd e.symm (hg j hlj)
  ·omega
end
section
open Go.Maps
def Sp {α:Type} (kf:α->Lit) (k:TypeId) (E:Value->Option (DataW Unit × List MemPlace)) (w:World) (b n:Nat) (f:α->Option Nat):Prop:=∃ D,w.ownsMap Tryz.prog k E b n D/\∀ x,Tells D (kf x) (f x)
section
variable {α:Type} {kf:α->Lit} {k:TypeId} {E:Value->Option (DataW Unit × List MemPlace)} {w w':World} {b n:Nat} {f f':α->Option Nat}
theorem Sp.below (h:Sp kf k E w b n f) (hb:Below w.heap.size w w'):Sp kf k E w' b n f:=by
 obtain ⟨D,o,t⟩:=h;exact ⟨D,own_below o hb,t⟩
theorem Sp.turned {c:Nat} (h:Sp kf k E w b n f) (ht:w.mapTurned w' c) (hne:b ≠ c):Sp kf k E w' b n f:=by
 obtain ⟨D,o,t⟩:=h;exact ⟨D,own_turned o ht hne,t⟩
theorem Sp.more {m:Nat} (h:Sp kf k E w b n f) (hm:n<=m):Sp kf k E w b m f:=by
 obtain ⟨D,o,t⟩:=h;exact ⟨D,o.mono hm,t⟩
theorem Sp.eq (h:Sp kf k E w b n f) (e:∀ x,f x=f' x):Sp kf k E w b n f':=by
 obtain ⟨D,o,t⟩:=h;exact ⟨D,o,fun x=>by rw [<-e x];exact t x⟩
theorem Sp.put {D:DataW Unit} {x:α} {g:Nat} (hi:∀ x y,kf x=kf y->x=y) (ho:w.ownsMap Tryz.prog k E b n D) (ht:∀ x,Tells D (kf x) (f x)) (hk:WideAt.IsKeyLit (kf x)) {m:Nat} (ho':w'.ownsMap Tryz.prog k E b m (D.put (kf x) (.lit (.int .i64 g)))) (h1:f' x=some g) (h2:∀ y,y ≠ x->f' y=f y):Sp kf k E w' b m f':=by
 refine ⟨_,ho',fun y=>?_⟩
 by_cases e:y=x
 ·subst e
  rw [h1];exact Tells.put_same ho.isMap hk
 ·rw [h2 y e]
  exact (ht y).put_other fun q=>e (hi _ _ q)
end
abbrev Si:=Sp ki 3 ptrE
abbrev Sm:=Sp ki 3 mapE
abbrev Ss:=Sp ks 9 ptrE
structure Ph (w W:World) (B b1 b2 h:Nat) (r:NR):Prop where
 kp:Kept w W
 bl:Below B w W
 sz:w.heap.size<=W.heap.size
 bx:WCells W h [.map (some b1),.map (some b2)]
 nd:WCells W (h+1) (qaj r)
theorem Ph.turned {w W W':World} {B b1 b2 h c:Nat} {r:NR} (p:Ph w W B b1 b2 h r) (ht:W.mapTurned W' c) (hc:B<=c) (hB:B<=w.heap.size):Ph w W' B b1 b2 h r:=
 ⟨p.kp.trans (Kept.turned ht),p.bl.grown ht.grown (by have:=p.sz;omega) (fun j hj=>by simp at hj;omega),Nat.le_trans p.sz ht.grown.size,qfx p.bx ht,qfx p.nd ht⟩
theorem Ph.below {w W W':World} {B b1 b2 h:Nat} {r:NR} (p:Ph w W B b1 b2 h r) (hb:Below W.heap.size W W') (hB:B<=w.heap.size):Ph w W' B b1 b2 h r:=
 ⟨p.kp.trans (Kept.below hb),p.bl.trans (hb.mono (by have:=p.sz;omega)),Nat.le_trans p.sz hb.size,p.bx.grow hb,p.nd.grow hb⟩
structure Ms (W:World) (B b1 b2 n1 n2 n3:Nat) (f1:Int->Option Nat) (C:Int->Nat) (ps:Int->Prop) (f3:Int->ByteArray->Option Nat):Prop where
 s1:Si W b1 n1 f1
 s2:∃ f2,Sm W b2 n2 f2/\∀ p,(ps p->f2 p=some (C p))/\(¬ ps p->f2 p=none)
 s3:∀ p,ps p->B<=C p/\C p ≠ b1/\C p ≠ b2/\Ss W (C p) n3 (f3 p)
 inj:∀ p q,ps p->ps q->C p=C q->p=q
theorem Ms.below {W W':World} {B b1 b2 n1 n2 n3:Nat} {f1:Int->Option Nat} {C:Int->Nat} {ps:Int->Prop} {f3:Int->ByteArray->Option Nat} (h:Ms W B b1 b2 n1 n2 n3 f1 C ps f3) (hb:Below W.heap.size W W'):Ms W' B b1 b2 n1 n2 n3 f1 C ps f3:=by
 obtain ⟨s1,⟨f2,s2,e2⟩,s3,inj⟩:=h;exact ⟨s1.below hb,⟨f2,s2.below hb,e2⟩,fun p hp=>⟨(s3 p hp).1,(s3 p hp).2.1,(s3 p hp).2.2.1,(s3 p hp).2.2.2.below hb⟩,inj⟩
theorem Lk.ms {w:World} {B b1 b2:Nat} {rs:List NR} {G:Nat->Nat} {C:Int->Nat} {A:Nat->Option Nat} (h:Lk w B b1 b2 rs G C A):Ms w B b1 b2 rs.length rs.length rs.length (fun id=>(fid (nds rs) id).map G) C (Par (nds rs)) (fun p s=>(fnm (nds rs) p s).map G):=by
 obtain ⟨m1,⟨D,o2,t2⟩,m3,inj,cells,one,lo⟩:=h
 classical
 refine ⟨m1,⟨fun p=>if Par (nds rs) p then some (C p) else none,⟨D,o2,fun p=>?_⟩,fun p=>⟨fun hp=>if_pos hp,fun hp=>if_neg hp⟩⟩,fun p hp=>m3 p hp,inj⟩
 by_cases hp:Par (nds rs) p
 ·dsimp only;rw [if_pos hp];exact (t2 p).1 hp
 ·dsimp only;rw [if_neg hp];exact (t2 p).2 hp
theorem qsp {x:Int} (h:(Lit.int .i64 x).wf=true):WideAt.IsKeyLit (ki x):=keyI.key (qcs h)
theorem str_key {s:ByteArray} (h:s.size<=maxLen):WideAt.IsKeyLit (ks s):=keyS.key (qkf h)
theorem add_any {w:World} {B b1 b2 g:Nat} {rs:List NR} {r:NR} {G:Nat->Nat} {C:Int->Nat} (h:Lk w B b1 b2 rs G C fun _=>none) (hn:WCells w g (qey r (.pointer none))) (hg:∀ i,i<rs.length->G i ≠ g) (hB:B<=g) (hBw:B<=w.heap.size) (hl:rs.length<=1048576) (f1:(Lit.int .i64 r.nd.id).wf=true) (f2:(Lit.int .i64 r.nd.parent).wf=true) (f3:r.nd.name.size<=maxLen) :
  Calls Tryz.prog 150 #[.agg #[.map (some b1),.map (some b2)],.pointer (some ⟨g,0,none⟩)] w fun e w'=>e = .returned (.tuple #[])/\(∃ C',Lk w' B b1 b2 (rs++[r]) (Gn G rs.length g) C' fun _=>none)/\Kept w w'/\Below B w w':=by
 have HL:=zS h;have HN:=zS hn;have HG:=zS hg;obtain ⟨c0,c1,c2,c3,c4,c5,c6,c7,c8⟩:=bwb9 hn;have lg:=hn.1;clear h hn hg;go_enter Tryz.func150,Tryz.ntmps150;go_upto_region 2 with fail;refine qaa (fun W=>Ph w W B b1 b2 w.heap.size r/\Ms W B b1 b2 rs.length rs.length rs.length (fun id=>(fid (nds rs) id).map G) C (Par (nds rs)) (fun p s=>(fnm (nds rs) p s).map G)) ?_ ?_
 ·have hb:Below w.heap.size w ((w.alloc (.cells #[.map (some b1),.map (some b2)] 169)).alloc (.cells #[.int .i64 r.nd.id,.int .i64 r.nd.parent,.string r.nd.name,.bool r.nd.dir,.int .i64 r.nd.schema,.int .i64 r.nd.quota,.int .i64 r.nd.len,.slice r.loc r.nd.pieces.length r.cap,.int .i64 r.nd.writer] 90)):=(zB.alloc zL _).alloc (by simp) _
  refine ⟨⟨Kept.below hb,hb.mono hBw,hb.size,(qac w #[.map (some b1),.map (some b2)] 169).alloc _,?_⟩,HL.1.ms.below hb⟩;have:=qac (w.alloc (.cells #[.map (some b1),.map (some b2)] 169)) #[.int .i64 r.nd.id,.int .i64 r.nd.parent,.string r.nd.name,.bool r.nd.dir,.int .i64 r.nd.schema,.int .i64 r.nd.quota,.int .i64 r.nd.len,.slice r.loc r.nd.pieces.length r.cap,.int .i64 r.nd.writer] 90
  simpa [qaj] using this
 intro W hW;obtain ⟨hP,hM⟩:=hW;have HP:=zS hP;have HM:=zS hM;have HLO:=zS HL.1.lo;clear c0 c1 c2 c3 c4 c5 c6 c7 c8 hP hM;have b0:=(HP.1.bx.2 0 _ rfl).1;have n0:=(HP.1.nd.2 0 _ rfl).1;obtain ⟨D1,o1,t1⟩:=HM.1.s1;have hk1:=qdu keyI Tryz.underlying166 qhn o1 (qcs f1) (t1 r.nd.id) 0;rw [World.drewN_zero] at hk1;dsimp only at hk1;have T1:=zS t1;clear t1;obtain ⟨u1,hu1⟩:∃ u1,u1=(fid (nds rs) r.nd.id).map G:=⟨_,rfl⟩;rw [<-hu1] at hk1;have U1:=zS hu1;clear hu1;have e1:=eqg_ptr;have e2:=eq_ptr;go_upto_if 14 with fail
 go_cut [4] from 5 to 47 (fun u wx=>u = .pointer (some ⟨w.heap.size+1,0,none⟩)/\Sh (Ph w wx B b1 b2 w.heap.size r/\Ms wx B b1 b2 (rs.length+1) rs.length rs.length (fun id=>match fid (nds rs) id with | some i=>some (G i) | none=>if r.nd.id=id then some g else none) C (Par (nds rs)) (fun p s=>(fnm (nds rs) p s).map G)))
 case first =>
  cases u1 with
  | some x =>
   clear o1 T1 D1;go_wp2_with fail;go_meet
   case rel =>
    refine ⟨rfl,⟨HP.1,?_⟩⟩;obtain ⟨s1,s2,s3,inj⟩:=HM.1;refine ⟨(s1.more (Nat.le_succ _)).eq fun id=>?_,s2,s3,inj⟩
    cases hf:fid (nds rs) id with
    | some i=>rfl
    | none =>
     by_cases e:r.nd.id=id
     ·have:=U1.1
      rw [e,hf] at this;cases this
     ·simp [e]
  | none =>
   have hmx:rs.length<maxLen:=by unfold maxLen;omega
   go_wp2_with (at_mapUpdate;refine wpList_mapUpdate_in _ rfl _ _ _ 166 rfl 3 194 keyI Tryz.underlying166 ptrE b1 rs.length D1 rfl o1 hmx _ _ _ rfl rfl (qcs f1) (.lit (.int .i64 g)) [] rfl ?_;intro w2 hown2 hturn2);go_meet
   case rel =>
    refine ⟨rfl,⟨HP.1.turned hturn2 HLO.1.1 hBw,?_⟩⟩;obtain ⟨s1,⟨f2',s2,e2⟩,s3,inj⟩:=HM.1;refine ⟨Sp.put (fun x y=>qrw) o1 T1.1 (qsp f1) hown2 ?_ (fun y hy=>?_),⟨f2',s2.turned hturn2 (fun e=>HLO.1.2.2 e.symm),e2⟩,fun p hp=>⟨(s3 p hp).1,(s3 p hp).2.1,(s3 p hp).2.2.1,(s3 p hp).2.2.2.turned hturn2 (s3 p hp).2.1⟩,inj⟩
    ·have:=U1.1
     cases hf:fid (nds rs) r.nd.id with
     | some i=>rw [hf] at this;cases this
     | none=>simp
    ·cases hf:fid (nds rs) y with
     | some i=>rfl
     | none=>simp;exact fun e=>hy e.symm
 case rest =>
  obtain ⟨rfl,hc⟩:=hcut;clear b0 n0 hk1 o1 T1 HM HP U1;have HP:=zS hc.1.1;have HM:=zS hc.1.2;clear hc;have b0:=(HP.1.bx.2 1 _ rfl).1;have n0:=(HP.1.nd.2 1 _ rfl).1;obtain ⟨F2,⟨D2,o2,t2⟩,E2⟩:=HM.1.s2;have hk2:=qhr keyI Tryz.underlying167 qnx o2 (qcs f2) (t2 r.nd.parent) 0;rw [World.drewN_zero] at hk2;have T2:=zS t2;have HE2:=zS E2;clear t2 E2;obtain ⟨u2,hu2⟩:∃ u2,u2=F2 r.nd.parent:=⟨_,rfl⟩;rw [<-hu2] at hk2;have U2:=zS hu2;clear hu2;have e3:=eqg_map;have e4:=eq_map;go_upto_if 25 with fail
  go_cut [4] from 5 to 47 (fun u wx=>u = .pointer (some ⟨w.heap.size+1,0,none⟩)/\Sh (Ph w wx B b1 b2 w.heap.size r/\∃ C',Ms wx B b1 b2 (rs.length+1) (rs.length+1) rs.length (fun id=>match fid (nds rs) id with | some i=>some (G i) | none=>if r.nd.id=id then some g else none) C' (fun p=>Par (nds rs) p\/r.nd.parent=p) (fun p s=>(fnm (nds rs) p s).map G)))
  case first =>
   cases u2 with
   | some x =>
    have hpar:Par (nds rs) r.nd.parent:=Classical.byContradiction fun hp=>by
     have:=(HE2.1 r.nd.parent).2 hp;rw [<-U2.1] at this;cases this
    have HPA:=zS hpar;clear o2 T2 D2 hpar;go_wp2_with fail;go_meet
    case rel =>
     refine ⟨rfl,⟨HP.1,C,?_⟩⟩;obtain ⟨s1,⟨f2',s2,e2⟩,s3,inj⟩:=HM.1;have hps:∀ p,Par (nds rs) p\/r.nd.parent=p->Par (nds rs) p:=fun p hp=>hp.elim (fun h=>h) (fun e=>e ▸ HPA.1);exact ⟨s1,⟨f2',s2.more (Nat.le_succ _),fun p=>⟨fun hp=>(e2 p).1 (hps p hp),fun hp=>(e2 p).2 fun hp'=>hp (.inl hp')⟩⟩,fun p hp=>s3 p (hps p hp),fun p q hp hq=>inj p q (hps p hp) (hps q hq)⟩
   | none =>
    have hpar:¬ Par (nds rs) r.nd.parent:=fun hp=>by
     have:=(HE2.1 r.nd.parent).1 hp;rw [<-U2.1] at this;cases this
    have HPA:=zS hpar;have hmx:rs.length<maxLen:=by unfold maxLen;omega
    have hmm:=@run_makeMap Tryz.prog;have o2':=o2.alloc (.map #[] 0);have hlt:b2<wc.heap.size:=o2.lt;clear hpar;go_wp2_with (at_mapUpdate;refine wpList_mapUpdate_in _ rfl _ _ _ 167 rfl 3 195 keyI Tryz.underlying167 mapE b2 rs.length D2 rfl o2' hmx _ _ _ rfl rfl (qcs f2) (.lit (.int .i64 wc.heap.size)) [] rfl ?_;intro w2 hown2 hturn2);go_meet
    case rel =>
     have hb:Below wc.heap.size wc (wc.alloc (.map #[] 0)):=zB.alloc zL _;have hne:wc.heap.size ≠ b2:=by omega
     have hsw:=HP.1.sz;obtain ⟨s1,⟨f2',s2,e2⟩,s3,inj⟩:=HM.1;obtain ⟨p1,p2,p3⟩:=HLO.1;have hl1:b1<wc.heap.size:=by obtain ⟨_,o,_⟩:=s1;exact o.lt
     classical
     have hother:∀ p,Par (nds rs) p\/r.nd.parent=p->p ≠ r.nd.parent->Par (nds rs) p:=fun p hp hne=>hp.elim (fun h=>h) (fun e=>absurd e.symm hne);have hlC:∀ p,Par (nds rs) p->C p<wc.heap.size:=fun p hp=>by obtain ⟨_,_,_,_,o,_⟩:=s3 p hp;exact o.lt
     refine ⟨rfl,⟨(HP.1.below hb hBw).turned hturn2 p2 hBw,fun p=>if p=r.nd.parent then wc.heap.size else C p,?_⟩⟩;refine ⟨(s1.below hb).turned hturn2 p3,⟨fun p=>if p=r.nd.parent then some wc.heap.size else F2 p,Sp.put (fun x y=>qrw) o2 T2.1 (qsp f2) hown2 (by simp) (fun y hy=>by simp [hy]),fun p=>⟨fun hp=>?_,fun hp=>?_⟩⟩,fun p hp=>?_,fun p q hp hq e=>?_⟩
     ·by_cases e:p=r.nd.parent
      ·simp [e]
      ·simp only [if_neg e]
       exact (HE2.1 p).1 (hother p hp e)
     ·have e:p ≠ r.nd.parent:=fun e=>hp (.inr e.symm)
      simp only [if_neg e];exact (HE2.1 p).2 fun h=>hp (.inl h)
     ·by_cases e:p=r.nd.parent
      ·subst e
       simp only [if_pos];refine ⟨by omega,by omega,hne,?_⟩;refine (Sp.more (Sp.turned (c:=b2) (w:=wc.alloc (.map #[] 0)) ⟨.map [],World.ownsMap_made wc Tryz.prog 9 ptrE,fun s=>?_⟩ hturn2 hne) (Nat.zero_le _))
       cases hf:fnm (nds rs) r.nd.parent s with
       | some i=>exact absurd (qrq hf) HPA.1
       | none=>dsimp only;rw [hf];rfl
      ·simp only [if_neg e]
       obtain ⟨q1,q2,q3,q4⟩:=s3 p (hother p hp e);exact ⟨q1,q2,q3,(q4.below hb).turned hturn2 q3⟩
     ·by_cases e1:p=r.nd.parent <;> by_cases e2':q=r.nd.parent
      ·rw [e1,e2']
      ·simp only [if_pos e1,if_neg e2'] at e
       have:=hlC q (hother q hq e2');omega
      ·simp only [if_neg e1,if_pos e2'] at e
       have:=hlC p (hother p hp e1);omega
      ·simp only [if_neg e1,if_neg e2'] at e
       exact inj p q (hother p hp e1) (hother q hq e2') e
  case rest =>
   obtain ⟨rfl,hc⟩:=hcut;clear b0 n0 hk2 o2 T2 HE2 HM HP U2;have HP:=zS hc.1.1;obtain ⟨C',hM⟩:=hc.1.2;have HM:=zS hM;clear hc hM;have b0:=(HP.1.bx.2 1 _ rfl).1;have n0:=(HP.1.nd.2 1 _ rfl).1;have n1:=(HP.1.nd.2 2 _ rfl).1;obtain ⟨F2,⟨D2,o2,t2⟩,E2⟩:=HM.1.s2;have hk2:=qhr keyI Tryz.underlying167 qnx o2 (qcs f2) (t2 r.nd.parent) 0;rw [World.drewN_zero,(E2 r.nd.parent).1 (.inr rfl)] at hk2;unfold mapV at hk2;obtain ⟨q1,q2,q3,D3,o3,t3⟩:=HM.1.s3 r.nd.parent (.inr rfl);have hk3:=qdu keyS Tryz.underlying195 qhn o3 (qkf f3) (t3 r.nd.name) 0;rw [World.drewN_zero] at hk3;dsimp only at hk2 hk3;have T3:=zS t3;have HC:=zS (And.intro q1 (And.intro q2 q3));clear t2 t3 E2 o2 q1 q2 q3;obtain ⟨c,hce⟩:∃ c,c=C' r.nd.parent:=⟨_,rfl⟩;rw [<-hce] at hk2 hk3 o3;have HCE:=zS hce;obtain ⟨u3,hu3⟩:∃ u3,u3=(fnm (nds rs) r.nd.parent r.nd.name).map G:=⟨_,rfl⟩;rw [<-hu3] at hk3;have U3:=zS hu3;clear hu3 hce
   have HFIN:Sh (∀ w',Kept w w'->Below B w w'->Ms w' B b1 b2 (rs.length+1) (rs.length+1) (rs.length+1) (fun id=>match fid (nds rs) id with | some i=>some (G i) | none=>if r.nd.id=id then some g else none) C' (fun p=>Par (nds rs) p\/r.nd.parent=p) (fun p s=>match fnm (nds rs) p s with | some i=>some (G i) | none=>if r.nd.parent=p/\r.nd.name=s then some g else none)->∃ C',Lk w' B b1 b2 (rs++[r]) (Gn G rs.length g) C' fun _=>none):=⟨fun w' hk hb hm=>by
    obtain ⟨s1,⟨f2',⟨D,o,t⟩,e2⟩,s3,inj⟩:=hm
    exact ⟨C',HL.1.snoc hk (hk _ _ HN.1) HG.1 hB s1 ⟨D,o,fun p=>⟨fun hp=>by rw [<-(e2 p).1 hp];exact t p,fun hp=>by rw [<-(e2 p).2 hp];exact t p⟩⟩ s3 inj⟩⟩
   cases u3 with
   | some x =>
    clear o3 T3 D3;go_wp2_with fail;refine bodyPost_end (v:=.tuple #[]) (by simp [results,Tryz.results150,go_sem]) rfl ?_;refine ⟨rfl,HFIN.1 _ HP.1.kp HP.1.bl ?_,HP.1.kp,HP.1.bl⟩;obtain ⟨s1,s2,s3,inj⟩:=HM.1;refine ⟨s1,s2,fun p hp=>⟨(s3 p hp).1,(s3 p hp).2.1,(s3 p hp).2.2.1,(Sp.more (s3 p hp).2.2.2 (Nat.le_succ _)).eq fun s=>?_⟩,inj⟩
    cases hf:fnm (nds rs) p s with
    | some i=>rfl
    | none =>
     by_cases e:r.nd.parent=p/\r.nd.name=s
     ·have:=U3.1
      rw [e.1,e.2,hf] at this;cases this
     ·simp [e]
   | none =>
    have hmx:rs.length<maxLen:=by unfold maxLen;omega
    go_wp2_with (at_mapUpdate;refine wpList_mapUpdate_in _ rfl _ _ _ 195 rfl 9 194 keyS Tryz.underlying195 ptrE c rs.length D3 rfl o3 hmx _ _ _ rfl rfl (qkf f3) (.lit (.int .i64 g)) [] rfl ?_;intro w2 hown2 hturn2);refine bodyPost_end (v:=.tuple #[]) (by simp [results,Tryz.results150,go_sem]) rfl ?_;have hcB:B<=c:=by rw [HCE.1];exact HC.1.1
    have hP:=HP.1.turned hturn2 hcB hBw;refine ⟨rfl,HFIN.1 _ hP.kp hP.bl ?_,hP.kp,hP.bl⟩;obtain ⟨s1,⟨f2',s2,e2⟩,s3,inj⟩:=HM.1;refine ⟨s1.turned hturn2 (by rw [HCE.1];exact fun e=>HC.1.2.1 e.symm),⟨f2',s2.turned hturn2 (by rw [HCE.1];exact fun e=>HC.1.2.2 e.symm),e2⟩,fun p hp=>?_,inj⟩;obtain ⟨q1,q2,q3,q4⟩:=s3 p hp;refine ⟨q1,q2,q3,?_⟩
    by_cases e:p=r.nd.parent
    ·subst e
     rw [<-HCE.1];refine Sp.put (fun x y=>ks_inj) o3 T3.1 (str_key f3) hown2 ?_ (fun y hy=>?_)
     ·have:=U3.1
      cases hf:fnm (nds rs) r.nd.parent r.nd.name with
      | some i=>rw [hf] at this;cases this
      | none=>simp
     ·cases hf:fnm (nds rs) r.nd.parent y with
      | some i=>rfl
      | none=>simp;exact fun e=>hy e.symm
    ·refine ((q4.turned hturn2 fun e'=>e ?_).more (Nat.le_succ _)).eq fun s=>?_
     ·exact inj p r.nd.parent hp (.inr rfl) (e'.trans HCE.1)
     ·cases hf:fnm (nds rs) p s with
      | some i=>rfl
      | none=>simp;exact fun e'=>absurd e'.symm e
theorem own_ne {w:World} {P:Program} {k:TypeId} {R:Value->Option (DataW Unit × List MemPlace)} {b n g:Nat} {D:DataW Unit} {L:List Value} (h:w.ownsMap P k R b n D) (hc:WCells w g L) (hL:0<L.length):b ≠ g:=by
 rintro rfl;obtain ⟨es,clock,hb,_⟩:=h;have:=(hc.2 0 _ (List.getElem?_eq_getElem hL)).1;simp [World.cell?,hb] at this
theorem qkh {w w':World} {g r:Nat} {L:List Value} (h:WCells w g L) (hg:w.grownBy w' (some r)) (hr:g ≠ r):WCells w' g L:=by
 have hk:=hg.block g h.1 (by simpa using hr);refine ⟨Nat.lt_of_lt_of_le h.1 hg.size,fun i v hv=>?_⟩;have h1:=h.2 i v hv;simp only [World.cell?,World.frozen?,hk] at h1 ⊢;exact h1
theorem Lk.grown {w w':World} {B b1 b2 r:Nat} {rs:List NR} {G:Nat->Nat} {C:Int->Nat} {A:Nat->Option Nat} (h:Lk w B b1 b2 rs G C A) (hg:w.grownBy w' (some r)) (h1:b1 ≠ r) (h2:b2 ≠ r) (h3:∀ p,Par (nds rs) p->C p ≠ r) (h4:∀ i,i<rs.length->G i ≠ r):Lk w' B b1 b2 rs G C A:=by
 obtain ⟨⟨D1,o1,t1⟩,⟨D2,o2,t2⟩,m3,inj,cells,one,lo⟩:=h;refine ⟨⟨D1,o1.kept hg (by simpa using h1),t1⟩,⟨D2,o2.kept hg (by simpa using h2),t2⟩,fun p hp=>?_,inj,fun i hi=>⟨qkh (cells i hi).1 hg (h4 i hi),(cells i hi).2⟩,one,lo⟩;obtain ⟨q1,q2,q3,D,o3,t3⟩:=m3 p hp;exact ⟨q1,q2,q3,D,o3.kept hg (by simpa using h3 p hp),t3⟩
theorem ptrV_is (o:Option Nat):∃ a,ptrV o = .pointer a:=by
 cases o with
 | none=>exact ⟨none,rfl⟩
 | some g=>exact ⟨some ⟨g,0,none⟩,rfl⟩
theorem qho (W:World) (p:Addr) (v:Value):W.grownBy (W.setCell p v) (some p.block):=
 ⟨rfl,rfl,rfl,by simp [World.setCell],fun k _ hk=>Below.heap_setCell _ _ _ k (fun e=>hk (by rw [e]))⟩
theorem lcells_set (r:NR) (p q:Value):(qey r p).set 9 q=qey r q:=rfl
theorem Lk.tell {w:World} {B b1 b2:Nat} {rs:List NR} {G:Nat->Nat} {C:Int->Nat} {A A':Nat->Option Nat} {i:Nat} (h:Lk w B b1 b2 rs G C A) (hi:i<rs.length) (hA:∀ j,j<rs.length->j ≠ i->A' j=A j):Lk (w.setCell ⟨G i,9,none⟩ (ptrV ((A' i).map G))) B b1 b2 rs G C A':=by
 obtain ⟨⟨D1,o1,t1⟩,⟨D2,o2,t2⟩,m3,inj,cells,one,lo⟩:=h;have hc:=(cells i hi).1;refine ⟨⟨D1,o1.setCell (a:=⟨G i,9,none⟩) (own_ne o1 hc (by simp [qey])) _,t1⟩,⟨D2,o2.setCell (a:=⟨G i,9,none⟩) (own_ne o2 hc (by simp [qey])) _,t2⟩,fun p hp=>?_,inj,fun j hj=>?_,one,lo⟩
 ·obtain ⟨q1,q2,q3,D,o3,t3⟩:=m3 p hp
  exact ⟨q1,q2,q3,D,o3.setCell (a:=⟨G i,9,none⟩) (own_ne o3 hc (by simp [qey])) _,t3⟩
 ·by_cases e:j=i
  ·subst e
   have:=hc.set 9 (ptrV ((A' j).map G)) (by simp [qey]);rw [lcells_set] at this;exact ⟨this,(cells j hj).2⟩
  ·rw [hA j hj e]
   exact ⟨(cells j hj).1.other _ _ (fun q=>e (one j i hj hi q)),(cells j hj).2⟩
theorem Lk.same {w:World} {B b1 b2:Nat} {rs:List NR} {G:Nat->Nat} {C:Int->Nat} {A A':Nat->Option Nat} (h:Lk w B b1 b2 rs G C A) (hA:∀ j,j<rs.length->A' j=A j):Lk w B b1 b2 rs G C A':=by
 obtain ⟨m1,m2,m3,inj,cells,one,lo⟩:=h;exact ⟨m1,m2,m3,inj,fun j hj=>by rw [hA j hj];exact cells j hj,one,lo⟩
theorem Lk.side {w:World} {B b1 b2:Nat} {rs:List NR} {G:Nat->Nat} {C:Int->Nat} {A:Nat->Option Nat} (h:Lk w B b1 b2 rs G C A) (p:Addr) (v:Value) {L:List Value} (hp:WCells w p.block L) (hL:0<L.length) (hne:∀ i,i<rs.length->G i ≠ p.block):Lk (w.setCell p v) B b1 b2 rs G C A:=by
 obtain ⟨⟨D1,o1,t1⟩,⟨D2,o2,t2⟩,m3,inj,cells,one,lo⟩:=h;refine ⟨⟨D1,o1.setCell (own_ne o1 hp hL) _,t1⟩,⟨D2,o2.setCell (own_ne o2 hp hL) _,t2⟩,fun q hq=>?_,inj,fun j hj=>⟨(cells j hj).1.other _ _ (hne j hj),(cells j hj).2⟩,one,lo⟩;obtain ⟨q1,q2,q3,D,o3,t3⟩:=m3 q hq;exact ⟨q1,q2,q3,D,o3.setCell (own_ne o3 hp hL) _,t3⟩
def Ab (ns:List NM) (left:Lit->Bool) (i:Nat):Option Nat:=if fid ns (ns.getD i default).id=some i/\left (ki (ns.getD i default).id)=false then fid ns (ns.getD i default).parent else none
theorem qrr (a b:Int):(ki a).sameKey (ki b)=decide (a=b):=by
 by_cases e:a=b
 ·subst e;simp [Lit.sameKey]
 ·rw [Maps.sameKey_ne (fun q=>e (qrw q))];simp [e]
theorem ab_step {ns:List NM} {left:Lit->Bool} {x:Int} {i:Nat} (hi:fid ns x=some i):(∀ j,j<ns.length->j ≠ i->Ab ns (fun z=>left z && !z.sameKey (ki x)) j=Ab ns left j)/\Ab ns (fun z=>left z && !z.sameKey (ki x)) i=fid ns (ns.getD i default).parent:=by
 obtain ⟨hil,ei⟩:=qck hi;constructor
 ·intro j hj hne
  unfold Ab
  by_cases hf:fid ns (ns.getD j default).id=some j
  ·have:¬ (ns.getD j default).id=x:=fun e=>by
    rw [e,hi] at hf;cases hf;exact hne rfl
   simp only [qrr,this,decide_false,Bool.not_false,Bool.and_true]
  ·simp only [hf,false_and,if_false]
 ·unfold Ab
  rw [getD_in hil,ei,if_pos ⟨hi,by simp [qrr]⟩]
structure Lw (w W:World) (rs:List NR) (G:Nat->Nat) (C:Int->Nat) (A:Nat->Option Nat):Prop where
 lk:Lk W w.heap.size (w.heap.size+1) (w.heap.size+1+1) rs G C A
 bx:WCells W w.heap.size [.map none,.map none]
 vr:WCells W (w.heap.size+1+1+1) [.map (some (w.heap.size+1)),.map (some (w.heap.size+1+1))]
 bl:Below w.heap.size w W
theorem qdt {w:World} {a:Option Addr} {rs:List NR} {cap lo hi:Nat} (hm:TR w a rs lo hi) (hl:rs.length<=1048576) (hI:NInt (nds rs)) (hS:∀ n ∈ nds rs,n.name.size<=maxLen) :
  Calls Tryz.prog 110 #[.slice a rs.length cap] w fun e w'=>∃ b1 b2 G C,e = .returned (.agg #[.map (some b1),.map (some b2)])/\Lk w' w.heap.size b1 b2 rs G C (Ab (nds rs) fun _=>false)/\Below w.heap.size w w':=by
 have HM:=zS hm;have HI:=zS hI;have HS:=zS hS;have hmm:=@run_makeMap Tryz.prog;clear hm hI hS;go_enter Tryz.func110,Tryz.ntmps110;go_upto_region 2 with fail;refine qaa (fun W=>Lw w W [] (fun _=>0) (fun _=>0) fun _=>none) ?_ ?_
 ·have m1:=World.ownsMap_made (w.alloc (.cells #[.map none,.map none] 169)) Tryz.prog 3 ptrE
  have m2:=World.ownsMap_made ((w.alloc (.cells #[.map none,.map none] 169)).alloc (.map #[] 0)) Tryz.prog 3 mapE;have z1:∀ o:Obj,(w.alloc o).heap.size=w.heap.size+1:=fun o=>by simp
  have z2:∀ o o':Obj,((w.alloc o).alloc o').heap.size=w.heap.size+1+1:=fun o o'=>by simp
  rw [z1] at m1;rw [z2] at m2;refine ⟨Lk.start ((m1.alloc _).alloc _) (m2.alloc _) ⟨by omega,by omega,by omega⟩,(((qac w #[.map none,.map none] 169).alloc _).alloc _).alloc _,?_,(((zB.alloc zL _).alloc (by simp) _).alloc (by simp;omega) _).alloc (by simp;omega) _⟩;have:=qac (((w.alloc (.cells #[.map none,.map none] 169)).alloc (.map #[] 0)).alloc (.map #[] 0)) #[.map (some (w.heap.size+1)),.map (some (w.heap.size+1+1))] 169
  simpa using this
 intro W hW;have HW:=zS hW;clear hW;go_wp2_with fail;go_loopw [13] (fun i wr=>∃ (k:Nat) (G:Nat->Nat) (C:Int->Nat),i = .int .i64 k/\k<=rs.length/\Sh (Lw w wr (rs.take k) G C fun _=>none)) (fun i _=>rs.length - (intOf i).toNat)
 case atStart=>exact ⟨0,_,_,rfl,Nat.zero_le _,by simpa using HW⟩
 case round =>
  clear HW;obtain ⟨k,G,C,rfl,hk,hW⟩:=hrel;obtain ⟨v0,v1⟩:=bwb2 hW.1.vr;have lv:=hW.1.vr.1
  by_cases hlt:k<rs.length
  ·obtain ⟨b,off,rfl,lb,hc⟩:=TR.nat HM.1 (by omega)
   have hn:=(hc k hlt).below hW.1.bl lb;obtain ⟨r,hr⟩:∃ r,r=rs[k]:=⟨_,rfl⟩;rw [<-hr] at hn;have hstep:rs.take (k+1)=rs.take k++[r]:=by rw [hr];exact List.take_succ_eq_append_getElem hlt
   have hmem:r.nd ∈ nds rs:=by rw [hr];exact List.mem_map.2 ⟨_,List.getElem_mem hlt,rfl⟩
   have f1:=(HI.1 _ hmem).1;have f2:=(HI.1 _ hmem).2;have f3:=HS.1 _ hmem;have hlk:(rs.take k).length=k:=by simp;omega
   have HCALL:Sh (∀ W,W=(wr.alloc (.cells #[.int .i64 r.nd.id,.int .i64 r.nd.parent,.string r.nd.name,.bool r.nd.dir,.int .i64 r.nd.schema,.int .i64 r.nd.quota,.int .i64 r.nd.len,.slice r.loc r.nd.pieces.length r.cap,.int .i64 r.nd.writer] 90)).alloc (.cells #[.int .i64 r.nd.id,.int .i64 r.nd.parent,.string r.nd.name,.bool r.nd.dir,.int .i64 r.nd.schema,.int .i64 r.nd.quota,.int .i64 r.nd.len,.slice r.loc r.nd.pieces.length r.cap,.int .i64 r.nd.writer,.pointer none] 197) ->
     Calls Tryz.prog 150 #[.agg #[.map (some (w.heap.size+1)),.map (some (w.heap.size+1+1))],.pointer (some ⟨wr.heap.size+1,0,none⟩)] W fun e w'=>e = .returned (.tuple #[])/\∃ G' C',Sh (Lw w w' (rs.take (k+1)) G' C' fun _=>none)):=⟨fun W hWe=>by
    have hb1:Below wr.heap.size wr W:=by rw [hWe];exact (zB.alloc zL _).alloc (by simp) _
    have hnew:WCells W (wr.heap.size+1) (qey r (.pointer none)):=by
     have:=qac (wr.alloc (.cells #[.int .i64 r.nd.id,.int .i64 r.nd.parent,.string r.nd.name,.bool r.nd.dir,.int .i64 r.nd.schema,.int .i64 r.nd.quota,.int .i64 r.nd.len,.slice r.loc r.nd.pieces.length r.cap,.int .i64 r.nd.writer] 90)) #[.int .i64 r.nd.id,.int .i64 r.nd.parent,.string r.nd.name,.bool r.nd.dir,.int .i64 r.nd.schema,.int .i64 r.nd.quota,.int .i64 r.nd.len,.slice r.loc r.nd.pieces.length r.cap,.int .i64 r.nd.writer,.pointer none] 197;rw [<-hWe] at this
     simpa [qey] using this
    have hbs:=hW.1.bl.size;refine (add_any (hW.1.lk.below hb1) hnew (fun i hi=>by have:=hW.1.lk.lt.2.2.1 i hi;omega) (by omega) (by have:=hb1.size;omega) (by rw [hlk];omega) f1 f2 f3).mono ?_;rintro e w' ⟨rfl,⟨C',hL⟩,hK,hB⟩
    exact ⟨rfl,_,C',⟨by rw [hstep];exact hL,hK _ _ (hW.1.bx.grow hb1),hK _ _ (hW.1.vr.grow hb1),hW.1.bl.trans ((hb1.mono hbs).trans hB)⟩⟩⟩
   obtain ⟨c0,c1,c2,c3,c4,c5,c6,c7,c8⟩:=hn;have lb':b<wr.heap.size:=Nat.lt_of_lt_of_le lb hW.1.bl.size;have k0:(0:Int)<=(k:Int):=by omega
   have k1:(k:Int)<(rs.length:Int):=by omega
   clear hc hr hstep hmem f1 f2 f3 hlk hmm;go_wp2_with fail;refine (HCALL.1 _ rfl).mono ?_;rintro e w2 ⟨rfl,G',C',hW'⟩;go_wp2_with fail;go_roundw
   case rel=>exact ⟨k+1,G',C',by go_num,by omega,hW'⟩
   case measure=>simp [intOf];omega
  ·have hkn:¬ (k:Int)<(rs.length:Int):=by omega
   obtain rfl:k=rs.length:=by omega
   rw [List.take_length] at hW;obtain ⟨wo,rfl⟩:∃ wo,wo=wr:=⟨_,rfl⟩;obtain ⟨D,o1,t1⟩:=hW.1.lk.m1;have T1:=zS t1;obtain ⟨l1,l2,l3,l4⟩:=hW.1.lk.lt;have L3:=zS l3;have L4:=zS l4;clear t1 l3 l4 hmm hlt hk
   go_wp2_with (first
    | (at_range;refine wpList_range_own _ rfl _ 166 rfl 3 194 keyI Tryz.underlying166 ptrE (w.heap.size+1) rs.length D rfl o1 ?_;intro w0 hrg0 hg0 hs0))
   have hbr:Below wo.heap.size wo w0:=zB.grown hg0 zL (fun j hj=>by cases hj);have HW0:Sh (Lw w w0 rs G C fun _=>none):=⟨hW.1.lk.below hbr,hW.1.bx.grow hbr,hW.1.vr.grow hbr,hW.1.bl.trans (hbr.mono hW.1.bl.size)⟩;have hlv:w.heap.size<wo.heap.size:=by omega
   go_loopw [7] (fun _ wx=>∃ (left:Lit->Bool) (cnt:Nat),wx.ranges Tryz.prog 3 ptrE (w.heap.size+1) wo.heap.size rs.length D left cnt/\Sh (Lw w wx rs G C (Ab (nds rs) left))) (fun _ wx=>wx.rangeLeft (w.heap.size+1) wo.heap.size)
   case atStart =>
    refine ⟨_,_,hrg0,⟨HW0.1.lk.same fun j hj=>?_,HW0.1.bx,HW0.1.vr,HW0.1.bl⟩⟩;unfold Ab
    by_cases hf:fid (nds rs) ((nds rs).getD j default).id=some j
    ·have:=(T1.1 ((nds rs).getD j default).id).has
     rw [hf] at this;rw [if_neg (fun hc=>by rw [hc.2] at this;cases this)]
    ·rw [if_neg (fun hc=>hf hc.1)]
   case round =>
    clear hrg0 HW0 hbr hg0 hs0 hW o1;obtain ⟨left,cnt,hrg,hW⟩:=hrel
    go_wp2_with (first
     | (at_next;refine wpList_next_ranges _ rfl _ rfl 3 keyI ptrE (Value.int .i64) ptrV (fun key kl hk=>by obtain ⟨x,hx,_⟩:=Maps.keyOf_int_inv Tryz.underlying3 hk;exact ⟨x,hx⟩) (fun v y hv=>qkm hv) (w.heap.size+1) wo.heap.size rs.length _ _ _ rfl hrg ?_ ?_))
    ·intro hc0 hl0
     have HA:Ab (nds rs) left=Ab (nds rs) fun _=>false:=by
      have:left=fun _=>false:=funext hl0;rw [this]
     rw [HA] at hW;have v0':=(hW.1.vr.2 0 _ rfl).1;have v1':=(hW.1.vr.2 1 _ rfl).1;have y0:=hW.1.bx.2 0 _ rfl;have y1:=hW.1.bx.2 1 _ rfl;obtain ⟨y0,z0⟩:=y0;obtain ⟨y1,z1⟩:=y1;have lw:=hW.1.bx.1;clear hrg hl0 HA;go_wp2_with fail;refine bodyPost_ret (v:=.agg #[.map (some (w.heap.size+1)),.map (some (w.heap.size+1+1))]) (by simp [results,Tryz.results110,go_sem,y0,y1]) rfl ?_;refine ⟨_,_,G,C,rfl,?_,(hW.1.bl.setCell zL _).setCell zL _⟩
     have hne:∀ i,i<rs.length->G i ≠ w.heap.size:=fun i hi e=>by
      have h2:=((hW.1.lk.cells i hi).1.2 0 _ rfl).1;rw [e,y0] at h2;cases h2
     refine (hW.1.lk.side ⟨w.heap.size,0,none⟩ _ hW.1.bx (by simp) hne).side ⟨w.heap.size,1,none⟩ _ (hW.1.bx.set 0 _ (by simp)) (by simp) hne
    ·intro x c kl d ps w1 cnt1 hkey hlk hv hat hrg1 hlt hg1 hs1 hen
     obtain ⟨x',ex,rfl,hwx⟩:=Maps.keyOf_int_inv Tryz.underlying3 hkey;cases ex;have htx:=T1.1 x
     cases hf:fid (nds rs) x with
     | none =>
      rw [hf] at htx;have q1:=Maps.atKey_of_not_has htx .nil;have q2:=Maps.atKey_of_not_has htx (.lit (.int .i64 0));rw [hat] at q1 q2;rw [q1] at q2;cases q2
     | some i =>
      rw [hf] at htx;have q1:=hat .nil;rw [htx.at] at q1;have hce:ptrV c=ptrV (some (G i)):=qog (by rw [hv,<-q1]);have HF:=zS hf;obtain ⟨hil,hie⟩:=qck hf;rw [qaf] at hil
      have hr1:Lw w w1 rs G C (Ab (nds rs) left):=by
       refine ⟨hW.1.lk.grown hg1 (by omega) (by omega) (fun p hp=>by have:=L4.1 p hp;omega) (fun j hj=>by have:=L3.1 j hj;omega),qkh hW.1.bx hg1 (by omega),qkh hW.1.vr hg1 (by omega),hW.1.bl.grown hg1 (by have:=hW.1.bl.size;omega) (fun j hj=>by cases hj;omega)⟩
      have HR:=zS hr1;obtain ⟨cc,_⟩:=hr1.lk.cells i hil;obtain ⟨r,hr⟩:∃ r,r=rs[i]:=⟨_,rfl⟩;rw [<-hr] at cc;have c1:=(cc.2 1 _ rfl).1;obtain ⟨c9,z9⟩:=cc.2 9 _ rfl;have v0':=(hr1.vr.2 0 _ rfl).1;have hmem:r.nd ∈ nds rs:=by rw [hr];exact List.mem_map.2 ⟨_,List.getElem_mem hil,rfl⟩
      have f2:=(HI.1 _ hmem).2;have hlook:=qdu keyI Tryz.underlying166 qhn hrg1.owns (qcs f2) (T1.1 r.nd.parent);obtain ⟨pv,hpv⟩:=ptrV_is ((fid (nds rs) r.nd.parent).map G);rw [hpv] at hlook;have HPV:=zS hpv;have HRG:=zS hrg1;have HR9:=zS hr;obtain ⟨g,hg⟩:∃ g,g=G i:=⟨_,rfl⟩;have HGI:=zS hg;rw [<-hg] at c1 c9 z9 hce;rw [hce] at hen ⊢;unfold ptrV at hen;have HRG0:=zS hrg;have HLT:=zS hlt;clear hlt hr1 hv hat hkey hlk htx q1 hce hf hie cc hmem f2 hpv hrg1 hr hg hW hrg;unfold ptrV;go_wp2_with fail;have hl1:(Instr.lookup 166 (.map (some (w.heap.size+1))) (.int .i64 r.nd.parent) false).run Tryz.prog w1.drew = .ok (.pointer pv) w1.drew:=hlook 1;clear hlook;go_region
      all_goals
       go_wp2_with fail;go_roundw
       case rel =>
        obtain ⟨hA1,hA2⟩:=ab_step (left:=left) HF.1;have hil':i<(nds rs).length:=by rw [qaf];exact hil
        have hne1:w.heap.size+1 ≠ g:=own_ne HRG.1.owns (by rw [HGI.1];exact (HR.1.lk.cells i hil).1) (by simp [qey]);have hne2:wo.heap.size ≠ g:=by have:=L3.1 i hil;rw [HGI.1];omega
        have hpe:(fid (nds rs) ((nds rs).getD i default).parent).map G=(fid (nds rs) r.nd.parent).map G:=by
         rw [HR9.1,getD_in hil'];simp [nds]
        have hset:=HR.1.lk.tell hil (A':=Ab (nds rs) fun z=>left z && !z.sameKey (ki x)) (fun j hj hne=>hA1 j (by rw [qaf];exact hj) hne);rw [hA2,hpe,HPV.1,<-HGI.1] at hset;have hB9:w.heap.size<=g:=by rw [HGI.1];exact (HR.1.lk.cells i hil).2
        have hn0:w.heap.size ≠ g:=fun e=>by
         have h1:=(HR.1.bx.2 0 _ rfl).1;have h2:=((HR.1.lk.cells i hil).1.2 0 _ rfl).1;rw [<-HGI.1,<-e,h1] at h2;cases h2
        have hn3:w.heap.size+1+1+1 ≠ g:=fun e=>by
         have h1:=(HR.1.vr.2 0 _ rfl).1;have h2:=((HR.1.lk.cells i hil).1.2 0 _ rfl).1;rw [<-HGI.1,<-e,h1] at h2;cases h2
        have hgr:w1.grownBy (w1.setCell ⟨g,9,none⟩ (.pointer pv)) (some g):=qho w1 ⟨g,9,none⟩ _;have hbd:Below (w1.setCell ⟨g,9,none⟩ (.pointer pv)).heap.size (w1.setCell ⟨g,9,none⟩ (.pointer pv)) (w1.setCell ⟨g,9,none⟩ (.pointer pv)).drew:=Below.drew zB;have hrn:=HRG.1.kept hgr (by simpa using hne1) (by simpa using hne2);have hrd:(w1.setCell ⟨g,9,none⟩ (.pointer pv)).drew.ranges Tryz.prog 3 ptrE (w.heap.size+1) wo.heap.size rs.length D (fun z=>left z && !z.sameKey (ki x)) cnt1:=hrn;exact ⟨_,_,hrd,hset.below hbd,(HR.1.bx.other ⟨g,9,none⟩ _ hn0).grow hbd,(HR.1.vr.other ⟨g,9,none⟩ _ hn3).grow hbd,(HR.1.bl.setCell hB9 _).trans (hbd.mono (by simpa [World.setCell] using HR.1.bl.size))⟩
       case measure =>
        have hne1:w.heap.size+1 ≠ g:=own_ne HRG.1.owns (by rw [HGI.1];exact (HR.1.lk.cells i hil).1) (by simp [qey]);have hne2:wo.heap.size ≠ g:=by have:=L3.1 i hil;rw [HGI.1];omega
        have hgr:w1.grownBy (w1.setCell ⟨g,9,none⟩ (.pointer pv)) (some g):=qho w1 ⟨g,9,none⟩ _;have hrn:=HRG.1.kept hgr (by simpa using hne1) (by simpa using hne2);have e1:=hrn.left_eq;have e2:=HRG0.1.left_eq;have e3:(w1.setCell ⟨g,9,none⟩ (.pointer pv)).drew.rangeLeft (w.heap.size+1) wo.heap.size=(w1.setCell ⟨g,9,none⟩ (.pointer pv)).rangeLeft (w.heap.size+1) wo.heap.size:=rfl;rw [e3,e1,e2];exact HLT.1
end
section
open Go.PlainAid (bt)
variable {p s:ByteArray} {done:List ByteArray} {xs:List Value} {B bg e i k n size:Nat} {v:Value} {w:World}
theorem get_bt9 (s:ByteArray) (j:Nat) (h:j<s.size):bt s j=((s.get! j).toNat:Int):=by
 unfold bt;rw [dif_pos h];simp [ByteArray.get!,getElem!_pos,h]
 rfl
theorem decode_far (s:ByteArray) (pos:Nat) (h:pos<s.size) (ha:128<=bt s pos):pos+(Utf8.decode s pos).2<=s.size/\(Utf8.decode s pos).2<=4/\∀ d,d<(Utf8.decode s pos).2->128<=bt s (pos+d):=by
 have hg:=fun d (q:pos+d<s.size)=>get_bt9 s (pos+d) q;have g0:=hg 0 (by omega);simp only [Nat.add_zero] at g0;have g1:=hg 1;have g2:=hg 2;have g3:=hg 3;clear hg;have hn:¬ (s.get! (pos+0)).toNat<128:=by simp only [Nat.add_zero];omega
 simp only [Utf8.decode,hn,if_false]
 have hone:pos+1<=s.size/\1<=4/\∀ d,d<1->128<=bt s (pos+d):=⟨by omega,by omega,fun d hd=>by
  have:d=0:=by omega
  subst this;exact ha⟩
 split
 ·rename_i q
  simp only [Bool.and_eq_true,decide_eq_true_eq,beq_iff_eq] at q;split
  ·refine ⟨by simp only;omega,by simp only;omega,fun d hd=>?_⟩
   have h1:=g1 q.2.1;rcases (show d=0\/d=1 from by simp only at hd;omega) with rfl | rfl
   ·exact ha
   ·rw [h1];omega
  ·exact hone
 ·split
  ·rename_i q
   simp only [Bool.and_eq_true,decide_eq_true_eq,beq_iff_eq] at q;split
   ·refine ⟨by simp only;omega,by simp only;omega,fun d hd=>?_⟩
    have h1:=g1 q.1.2.1;have h2:=g2 q.2.1;rcases (show d=0\/d=1\/d=2 from by simp only at hd;omega) with rfl | rfl | rfl
    ·exact ha
    ·rw [h1];omega
    ·rw [h2];omega
   ·exact hone
  ·split
   ·rename_i q
    simp only [Bool.and_eq_true,decide_eq_true_eq,beq_iff_eq] at q;split
    ·refine ⟨by simp only;omega,by simp only;omega,fun d hd=>?_⟩
     have h1:=g1 q.1.1.2.1;have h2:=g2 q.1.2.1;have h3:=g3 q.2.1;rcases (show d=0\/d=1\/d=2\/d=3 from by simp only at hd;omega) with rfl | rfl | rfl | rfl
     ·exact ha
     ·rw [h1];omega
     ·rw [h2];omega
     ·rw [h3];omega
    ·exact hone
   ·exact hone
theorem qqk (s:ByteArray) (pos:Nat) (h:pos<s.size) (ha:bt s pos<128):((Utf8.decode s pos).1:Int)=bt s pos/\(Utf8.decode s pos).2=1:=by
 have e:bt s pos=((s[pos]'h).toNat:Int):=by unfold bt;rw [dif_pos h]
 rw [decode_ascii s pos h (by omega),e];exact ⟨rfl,rfl⟩
theorem qoi (s:ByteArray) (pos:Nat) (h:pos<s.size) (ha:128<=bt s pos):(128:Int)<=((Utf8.decode s pos).1:Int)/\1<=(Utf8.decode s pos).2:=by
 have e:bt s pos=((s[pos]'h).toNat:Int):=by unfold bt;rw [dif_pos h]
 have:=decode_high s pos h (by omega);omega
theorem qjb (r:Int) (b:Bool) (hb:b=true↔nameN r) (w:World):Calls Tryz.prog 183 #[.int .i32 r] w fun e w'=>e = .returned (.bool b)/\w'=w:=by
 have HB:=zS hb;clear hb;unfold nameN at HB
 by_cases c1:97<=r
 ·by_cases c2:r<=122
  ·have hb:b=true:=HB.1.2 (by omega)
   subst hb;go_enter Tryz.func183,Tryz.ntmps183;go_wp2_with fail;go_ret;exact ⟨rfl,rfl⟩
  ·have c3:48<=r:=by omega
   have c4:¬ r<=57:=by omega
   have hb:b=false:=by cases b with | false=>rfl | true=>exact absurd (HB.1.1 rfl) (by omega)
   subst hb;go_enter Tryz.func183,Tryz.ntmps183;go_wp2_with fail;go_ret;exact ⟨rfl,rfl⟩
 ·by_cases c3:48<=r
  ·by_cases c4:r<=57
   ·have hb:b=true:=HB.1.2 (by omega)
    subst hb;go_enter Tryz.func183,Tryz.ntmps183;go_wp2_with fail;go_ret;exact ⟨rfl,rfl⟩
   ·have hb:b=false:=by cases b with | false=>rfl | true=>exact absurd (HB.1.1 rfl) (by omega)
    subst hb;go_enter Tryz.func183,Tryz.ntmps183;go_wp2_with fail;go_ret;exact ⟨rfl,rfl⟩
  ·have hb:b=false:=by cases b with | false=>rfl | true=>exact absurd (HB.1.1 rfl) (by omega)
   subst hb;go_enter Tryz.func183,Tryz.ntmps183;go_wp2_with fail;go_ret;exact ⟨rfl,rfl⟩
theorem qis (w:World) (s:ByteArray) (pos:Nat):Below w.heap.size w (w.iter s pos):=zB.alloc zL _
theorem qlv (s:ByteArray) (w:World) (hs:s.size<=1048576):Calls Tryz.prog 153 #[.string s] w fun e w'=>e = .returned (.bool (nameB s))/\Below w.heap.size w w':=by
 obtain ⟨r,hre⟩:∃ r,r=nameB s:=⟨_,rfl⟩;have HRE:=zS hre;rw [<-hre];clear hre
 have hnot (q:¬ (1<=s.size/\s.size<=8)):r=false:=by
  rw [HRE.1]
  cases e:nameB s with
  | false=>rfl
  | true=>exact absurd ((qez s).1 e).2 q
 by_cases h1:s.size<1
 ·have hr:=hnot (by omega)
  subst hr;have h1':(s.size:Int)<1:=by omega
  go_enter Tryz.func153,Tryz.ntmps153;go_wp2_with fail;go_ret;exact ⟨rfl,zB⟩
 have h1':¬ (s.size:Int)<1:=by omega
 by_cases h8:8<s.size
 ·have hr:=hnot (by omega)
  subst hr;have h8':(8:Int)<(s.size:Int):=by omega
  go_enter Tryz.func153,Tryz.ntmps153;go_wp2_with fail;go_ret;exact ⟨rfl,zB⟩
 have h8':¬ (8:Int)<(s.size:Int):=by omega
 clear hnot;go_enter Tryz.func153,Tryz.ntmps153;go_wp2_with fail;go_loopw [2] (fun v wr=>∃ (pos:Nat),v = .bool false/\wr=w.iter s pos/\pos<=s.size/\Sh (∀ j,j<pos->nameN (bt s j))) (fun _ wr=>s.size - wr.iterPos w.heap.size)
 case atStart=>exact ⟨0,rfl,rfl,Nat.zero_le _,⟨fun j hj=>by omega⟩⟩
 case round =>
  obtain ⟨pos,rfl,rfl,hp,hall⟩:=hrel
  by_cases hlt:pos<s.size
  ·have hnx:∀ ty,(Instr.next (.pointer (some ⟨w.heap.size,0,none⟩)) true ty).run Tryz.prog (w.iter s pos)=_:=fun ty=>run_next_any w s pos ty hlt
   have hlow:=qqk s pos hlt;have hhigh:=qoi s pos hlt;generalize Utf8.decode s pos=D at *;obtain ⟨rn,wd⟩:=D;simp only at hlow hhigh hnx
   by_cases hn:nameN (bt s pos)
   ·have hl:bt s pos<128:=by unfold nameN at hn;omega
    obtain ⟨e1,rfl⟩:=hlow hl;have HN:=zS (fun W=>qjb (rn:Int) true (by rw [e1];exact ⟨fun _=>hn,fun _=>rfl⟩) W)
    have HA:Sh (∀ j,j<pos+1->nameN (bt s j)):=⟨fun j hj=>by
     by_cases e:j=pos
     ·subst e;exact hn
     ·exact hall.1 j (by omega)⟩
    clear hn hlow hhigh e1 hl hall;go_wp2_with fail;refine (HN.1 _).mono ?_;rintro e w1 ⟨rfl,hw⟩;subst hw;go_wp2_with fail;go_roundw
    case rel=>exact ⟨pos+1,rfl,rfl,by omega,HA⟩
    case measure=>simp;omega
   ·have hr:r=false:=HRE.1.trans (qqm hlt hn)
    have HN:=zS (fun W=>qjb (rn:Int) false (by
     refine ⟨fun q=>(Bool.noConfusion q),fun q=>?_⟩;exfalso
     by_cases hl:bt s pos<128
     ·rw [(hlow hl).1] at q;exact hn q
     ·have:=(hhigh (by omega)).1
      unfold nameN at q
      omega) W)
    subst hr;clear hn hlow hhigh hall;go_wp2_with fail;refine (HN.1 _).mono ?_;rintro e w1 ⟨rfl,hw⟩;subst hw;go_wp2_with fail;go_ret;exact ⟨rfl,qis _ _ _⟩
  ·have hnx:∀ ty,(Instr.next (.pointer (some ⟨w.heap.size,0,none⟩)) true ty).run Tryz.prog (w.iter s pos)=_:=fun ty=>run_next_end w s pos ty hlt
   have hr:r=true:=HRE.1.trans ((qez s).2 ⟨fun j hj=>hall.1 j (by omega),by omega,by omega⟩);subst hr;go_wp2_with fail;go_ret;exact ⟨rfl,qis _ _ _⟩
structure BwRel (p:ByteArray) (i bg:Nat) (done:List ByteArray):Prop where
 le:bg<=i
 clean:∀ j,bg<=j->j<i->bt p j ≠ 47
 sofar:(segs (lb p)).map ba=done++(segs ((lb p).drop bg)).map ba
theorem BwRel.start:BwRel p 0 0 []:=⟨zL,fun j h1 h2=>by omega,rfl⟩
theorem BwRel.step {i bg wd:Nat} (h:BwRel p i bg done) (hc:∀ d,d<wd->bt p (i+d) ≠ 47):BwRel p (i+wd) bg done:=
 ⟨by have:=h.le;omega,fun j h1 h2=>by
  by_cases e:j<i
  ·exact h.clean j h1 e
  ·have:=hc (j - i) (by omega)
   rwa [show i+(j - i)=j from by omega] at this,h.sofar⟩
theorem BwRel.cut (h:BwRel p i bg done) (hi:i<p.size) (hc:bt p i=47):BwRel p (i+1) (i+1) (done++[p.extract bg i]):=by
 refine ⟨zL,fun j h1 h2=>by omega,?_⟩;have hl:(lb p).length=p.size:=rfl
 have e:(lb p).drop bg=((lb p).drop bg).take (i - bg)++47::(lb p).drop (i+1):=by
  have h1:((lb p).drop bg).drop (i - bg)=47::(lb p).drop (i+1):=by
   rw [List.drop_drop,show bg+(i - bg)=i from by have:=h.le;omega,List.drop_eq_getElem_cons (by omega)]
   congr 1
   have:=bt_at hi;rw [hc] at this;have h2:((lb p)[i]'(by omega)).toNat=47:=by omega
   exact UInt8.toNat_inj.1 h2
  rw [<-h1,List.take_append_drop]
 rw [h.sofar,e,qmx _ _ (qgn (by omega) h.clean),List.map_cons,List.append_assoc]
 congr 1
 rw [<-ext_list,ba_lb];rfl
theorem BwRel.fin (h:BwRel p i bg done) (hi:i=p.size):(segs (lb p)).map ba=done++[p.extract bg p.size]:=by
 have hl:(lb p).length=p.size:=rfl;subst hi;have e:(lb p).drop bg=((lb p).drop bg).take (p.size - bg):=by rw [List.take_of_length_le (by rw [List.length_drop];omega)]
 rw [h.sofar,e,qkr _ (qgn (by omega) h.clean),List.map_cons,List.map_nil,<-ext_list,ba_lb]
theorem slice_from (s:ByteArray) (a:Nat) (h:a<=s.size) (w:World):(Instr.slice 9 (.string s) (some (.int .i64 a)) none none).run Tryz.prog w = .ok (.string (s.extract a s.size)) w:=by
 rw [run_slice_string_from_if w 9 s .i64 a Tryz.underlying9,if_pos ⟨by omega,by omega⟩]
 rfl
theorem own_iter9 {pos:Nat} (h:w.ownsRow B e size v n xs) (hk:w.heap[k]?=some (.stringIter s pos)) (pos':Nat):(w.iterAt k s pos').ownsRow B e size v n xs:=by
 refine ⟨h.1,h.2.imp id fun ⟨g,cap,cur,hv,hb,hg,rest⟩=>⟨g,cap,cur,hv,hb,?_,rest⟩⟩;rw [Lib.iterAt_other _ _ _ _ _ (fun e=>by subst e;rw [hk] at hg;cases hg)];exact hg
theorem own_ne9 {pos:Nat} (h:w.ownsRow B e size v n xs) (hk:w.heap[k]?=some (.stringIter s pos)):some k ≠ v.ownBlock:=by
 rcases h.2 with ⟨rfl,_⟩ | ⟨g,cap,cur,rfl,hb,hg,rest⟩
 ·exact fun e=>nomatch e
 ·intro e
  cases e;rw [hk] at hg;cases hg
theorem implBetween (p:ByteArray) (w:World) (hs:p.size<=1048576):Calls Tryz.prog 157 #[.string p] w fun e w'=>∃ v,e = .returned v/\w'.ownsRow w.heap.size 9 1 v (segs (lb p)).length (tv ((segs (lb p)).map ba))/\Below w.heap.size w w':=by
 obtain ⟨i0,hi,hz0,hz1,hz2⟩:=info_parts qoy;have hb:=Go.PlainAid.get_bt p;go_enter Tryz.func157,Tryz.ntmps157;go_wp2_with fail;go_loopw [3,4] (fun v bg wr=>∃ (pos g:Nat) (done:List ByteArray) (vv:Value),vv=v/\bg = .int .i64 g/\wr.heap[w.heap.size]?=some (.stringIter p pos)/\pos<=p.size/\g<=pos/\done.length<=pos/\Sh (BwRel p pos g done)/\Sh (wr.ownsRow w.heap.size 9 1 vv done.length (tv done))/\Sh (Below w.heap.size w wr)) (fun _ _ wr=>p.size - wr.iterPos w.heap.size)
 case atStart=>exact ⟨0,0,[],_,rfl,rfl,World.iter_heap _ _ _,Nat.zero_le _,zL,by simp,⟨BwRel.start⟩,⟨⟨rfl,.inl ⟨rfl,rfl⟩⟩⟩,⟨qis _ _ _⟩⟩
 case round =>
  obtain ⟨pos,g,done,v,rfl,rfl,hit,hp,hg,hd,hrl,hown,hbl⟩:=hrel;have hB:=hbl.1.size;have hB1:w.heap.size<wr.heap.size:=(Array.getElem?_eq_some_iff.1 hit).1
  by_cases hlt:pos<p.size
  ·have hlow:=qqk p pos hlt
   have hhigh:=qoi p pos hlt;have hfar:=decode_far p pos hlt;obtain ⟨rn,wd,hD⟩:∃ rn wd,Utf8.decode p pos=(rn,wd):=⟨_,_,rfl⟩;have hnx:∀ ty,(Instr.next (.pointer (some ⟨w.heap.size,0,none⟩)) true ty).run Tryz.prog wr=_:=fun ty=>Lib.run_next_any_at wr w.heap.size p pos ty hit hlt;rw [hD] at hlow hhigh hfar hnx;simp only at hlow hhigh hfar hnx;generalize (rn:Int)=R at hlow hhigh hnx;have hitp:=iterPos_of hit;have hit1:=Lib.iterAt_heap wr w.heap.size p pos (pos+wd) hit;have hown1:=own_iter9 hown.1 hit (pos+wd);have hbl1:=Lib.below_iterAt hbl.1 zL p (pos+wd);have hsz1:w.heap.size<(wr.iterAt w.heap.size p (pos+wd)).heap.size:=by rw [Lib.iterAt_size];exact hB1
   generalize wr.iterAt w.heap.size p (pos+wd)=W1 at *;clear hD hbl hown hit
   by_cases hc:bt p pos=47
   ·obtain ⟨e1,rfl⟩:=hlow (by omega)
    have hrn:R=47:=by omega
    have hrn':(R==47)=true:=by rw [hrn];rfl
    have HR:=zS (hrl.1.cut hlt hc);have hsl:=qjs p g pos hg (by omega);have hne:=own_ne9 hown1 hit1;have HB1:=zS hbl1;generalize p.extract g pos=x at *;clear hlow hhigh hfar hrl hc e1 hrn hbl1;go_wp2_with (at_builtin;refine wpList_append_own _ rfl _ _ 136 rfl w.heap.size 9 i0 (.string ⟨#[]⟩) 1 16 Tryz.underlying136 hi hz0 hz1 hz2 rfl (by decide) _ _ _ rfl (hown1.alloc _) ⟨W1.heap.size,0,none⟩ 1 1 [.string x] rfl rfl (cell_one_new _ _ _) ?c2 ?c3 ?c4 ?c5 ?_)
    case c2=>first | rfl | (intro u hu;simp at hu;subst hu;rfl)
    case c3=>unfold maxLen;omega
    case c4=>omega
    case c5=>first | omega | (simp;omega)
    intro v' w4 hown' hgrow _;rw [qna] at hown';have Q1:Sh (w4.ownsRow w.heap.size 9 1 v' (done++[x]).length (tv (done++[x]))):=⟨by rw [List.length_append,List.length_singleton];exact hown'⟩;have Q2:=zS ((HB1.1.alloc (by omega) (.cells #[.string x] 9)).grown hgrow (by simp;omega) (fun j hj=>(hown1.lt j hj).1))
    have hit4:w4.heap[w.heap.size]?=some (.stringIter p (pos+1)):=by
     rw [hgrow.block _ (by simp;omega) hne,Below.heap_alloc _ _ _ (by omega)];exact hit1
    clear hown' hgrow hown1 HB1;go_wp2_with fail;go_roundw
    case rel=>exact ⟨pos+1,pos+1,_,v',rfl,by go_num,hit4,by omega,zL,by rw [List.length_append,List.length_singleton];omega,HR,Q1,Q2⟩
    case measure=>rw [hitp,iterPos_of hit4];omega
   ·have hrn:¬ R=47/\pos+wd<=p.size/\1<=wd/\∀ d,d<wd->bt p (pos+d) ≠ 47:=by
     by_cases hl:bt p pos<128
     ·obtain ⟨e1,rfl⟩:=hlow hl
      refine ⟨by omega,by omega,by omega,fun d hd=>?_⟩;have:d=0:=by omega
      subst this;exact hc
     ·have h1:=hhigh (by omega)
      have h2:=hfar (by omega);refine ⟨by omega,h2.1,h1.2,fun d hd=>?_⟩;have:=h2.2.2 d hd;omega
    obtain ⟨h1,h2,h3,h4⟩:=hrn;have hrn':(R==47)=false:=by rw [beq_eq_false_iff_ne];exact h1
    have HR:=zS (hrl.1.step h4);clear hlow hhigh hfar hrl hc h4;go_wp2_with fail;go_roundw
    case rel=>exact ⟨pos+wd,g,done,v,rfl,rfl,hit1,h2,by omega,by omega,HR,⟨hown1⟩,⟨hbl1⟩⟩
    case measure=>rw [hitp,iterPos_of hit1];omega
  ·have hnx:∀ ty,(Instr.next (.pointer (some ⟨w.heap.size,0,none⟩)) true ty).run Tryz.prog wr=_:=fun ty=>Lib.run_next_end_at wr w.heap.size p pos ty hit hlt
   have hfin:=hrl.1.fin (by omega);have hsl:=slice_from p g (by omega)
   have hln:(segs (lb p)).length=done.length+1:=by
    have:=congrArg List.length hfin
    rwa [List.length_map,List.length_append,List.length_singleton] at this
   have HL:=zS hln;have HF:=zS hfin;have hown1:=hown.1;generalize p.extract g p.size=x at *;clear hrl hfin hln hown;go_wp2_with (at_builtin;refine wpList_append_own _ rfl _ _ 136 rfl w.heap.size 9 i0 (.string ⟨#[]⟩) 1 16 Tryz.underlying136 hi hz0 hz1 hz2 rfl (by decide) _ _ _ rfl (hown1.alloc _) ⟨wr.heap.size,0,none⟩ 1 1 [.string x] rfl rfl (cell_one_new _ _ _) ?c2 ?c3 ?c4 ?c5 ?_)
   case c2=>first | rfl | (intro u hu;simp at hu;subst hu;rfl)
   case c3=>unfold maxLen;omega
   case c4=>omega
   case c5=>first | omega | (simp;omega)
   intro v' w4 hown' hgrow _;rw [qna] at hown';have Q2:=zS ((hbl.1.alloc hB (.cells #[.string x] 9)).grown hgrow (by simp;omega) (fun j hj=>(hown1.lt j hj).1));have Q1:=zS hown';clear hown' hgrow hown1;go_wp2_with fail;go_ret;exact ⟨_,rfl,by rw [HL.1,HF.1];exact Q1.1,Q2.1⟩
end
section
variable {xs:List ByteArray} {g off:Nat} {w w':World}
def OCells (w:World) (g off:Nat) (xs:List ByteArray):Prop:=
 g<w.heap.size/\∀ j,j<xs.length->w.cell? ⟨g,off+j,none⟩=some (.string (xs.getD j ⟨#[]⟩))/\w.frozen? ⟨g,off+j,none⟩=false
theorem OCells.below {g off B:Nat} (h:OCells w g off xs) (hb:Below B w w') (hg:g<B):OCells w' g off xs:=
 ⟨Nat.lt_of_lt_of_le h.1 hb.size,fun j hj=>⟨(hb.cell (p:=⟨g,off+j,none⟩) hg).trans (h.2 j hj).1,(hb.frozen (p:=⟨g,off+j,none⟩) hg).trans (h.2 j hj).2⟩⟩
theorem OCells.block (h:OCells w g off xs) (hs:w.heap.size<=w'.heap.size) (hb:w'.heap[g]?=w.heap[g]?):OCells w' g off xs:=
 ⟨Nat.lt_of_lt_of_le h.1 hs,fun j hj=>⟨(World.cell?_of_block (a:=⟨g,off+j,none⟩) hb).trans (h.2 j hj).1,(World.frozen?_of_block (a:=⟨g,off+j,none⟩) hb).trans (h.2 j hj).2⟩⟩
theorem OCells.set (h:OCells w g off xs) (i:Nat) (x:ByteArray) (hi:i<xs.length):OCells (w.setCell ⟨g,off+i,none⟩ (.string x)) g off (xs.set i x):=by
 refine ⟨by have:=h.1;simpa [World.setCell] using this,fun j hj=>?_⟩;rw [List.length_set] at hj;refine ⟨?_,(World.frozen?_setCell _ _ _ _).trans (h.2 j hj).2⟩
 by_cases e:j=i
 ·subst e
  rw [World.cell?_setCell_same _ _ _ (h.2 j hj).1];simp [List.getD,hi]
 ·rw [World.cell?_setCell_other _ _ _ _ (by first | (simp;done) | (simp;omega)),(h.2 j hj).1]
  simp [List.getD,Ne.symm e]
def OAns (w:World) (v:Value) (L:List ByteArray) (lo hi:Nat):Prop:=∃ (a:Option Addr) (cap:Nat),v = .slice a L.length cap/\L.length<=cap/\(L=[]\/∃ g off,a=some ⟨g,off,none⟩/\lo<=g/\g<hi/\OCells w g off L)
end
section
variable {L:List ByteArray} {base g n:Nat} {v:Value} {w w':World}
def CSee (w:World) (v:Value) (L:List ByteArray) (lo hi:Nat):Prop:=∃ (a:Option Addr) (cap:Nat),v = .slice a L.length cap/\L.length<=cap/\RRow w a (tv L) lo hi
def OwnAt (w:World) (base:Nat) (v:Value) (n:Nat) (L:List ByteArray):Prop:=
 L.length=n/\((v = .slice none 0 0/\n=0)\/∃ g off cap,v = .slice (some ⟨g,off,none⟩) n cap/\base<=g/\n<=cap/\(∀ j,j<cap->(w.cell? ⟨g,off+j,none⟩).isSome=true/\w.frozen? ⟨g,off+j,none⟩=false)/\OCells w g off L)
theorem OwnAt.nil (w:World) (base:Nat):OwnAt w base (.slice none 0 0) 0 []:=⟨rfl,.inl ⟨rfl,rfl⟩⟩
theorem own_cell1 {cur:Array Value} (hg:w.heap[g]?=some (.cells cur 9 (0,0))) (j:Nat) (hj:j<cur.size):(w.cell? ⟨g,j,none⟩).isSome=true/\w.frozen? ⟨g,j,none⟩=false:=by
 refine ⟨?_,?_⟩
 ·simp [World.cell?,hg,hj]
 ·simp [World.frozen?,hg]
theorem own_tail {base g n cap:Nat} {x:ByteArray} (h:w.ownsRow base 9 1 (.slice (some ⟨g,0,none⟩) (n+1) cap) (n+1) (tv (x::L))):OwnAt w base (.slice (some ⟨g,1,none⟩) n (cap - 1)) n L:=by
 have hw:=qan h;have hl:=h.1;rw [qph,List.length_cons] at hl;rcases h.2 with ⟨e,_⟩ | ⟨g',cap',cur,e,hb,hg,hn,_,hs,_⟩
 ·cases e
 ·cases e
  refine ⟨by omega,.inr ⟨g,1,cap - 1,rfl,hb,by omega,fun j hj=>own_cell1 hg _ (by omega),hw.1,fun j hj=>?_⟩⟩;have:=hw.2 (1+j) (.string (L.getD j ⟨#[]⟩)) (by rw [Nat.add_comm];exact qox L j hj);exact this
theorem OwnAt.oans (h:OwnAt w base v n L):OAns w v L base w.heap.size:=by
 obtain ⟨hl,h | ⟨g,off,cap,e,hb,hn,_,hc⟩⟩:=h
 ·obtain ⟨e,h0⟩:=h
  rw [h0] at hl;rw [List.eq_nil_of_length_eq_zero hl];exact ⟨none,0,e,zL,.inl rfl⟩
 ·exact ⟨_,cap,by rw [hl];exact e,by omega,.inr ⟨g,off,rfl,hb,hc.1,hc⟩⟩
theorem OwnAt.lt (h:OwnAt w base v n L):∀ k,v.ownBlock=some k->base<=k/\k<w.heap.size:=by
 intro k hk;obtain ⟨_,⟨rfl,_⟩ | ⟨g,off,cap,rfl,hb,_,_,hc⟩⟩:=h
 ·cases hk
 ·cases hk;exact ⟨hb,hc.1⟩
theorem OwnAt.kept (h:OwnAt w base v n L) (hs:w.heap.size<=w'.heap.size) (hb:∀ k,v.ownBlock=some k->w'.heap[k]?=w.heap[k]?):OwnAt w' base v n L:=by
 obtain ⟨hl,h0 | ⟨g,off,cap,rfl,hbs,hn,hf,hc⟩⟩:=h
 ·exact ⟨hl,.inl h0⟩
 ·have e:=hb g rfl
  exact ⟨hl,.inr ⟨g,off,cap,rfl,hbs,hn,fun j hj=>by rw [World.cell?_of_block (a:=⟨g,off+j,none⟩) e,World.frozen?_of_block (a:=⟨g,off+j,none⟩) e];exact hf j hj,hc.block hs e⟩⟩
theorem OwnAt.below (h:OwnAt w base v n L) (hb:Below w.heap.size w w'):OwnAt w' base v n L:=h.kept hb.size (fun k hk=>hb.block k (h.lt k hk).2)
theorem isSome_set {a p:Addr} {x:Value} (h:(w.cell? p).isSome=true):((w.setCell a x).cell? p).isSome=true:=by
 obtain ⟨u,hu⟩:=Option.isSome_iff_exists.1 h
 by_cases e:p=a
 ·subst e
  rw [World.cell?_setCell_same _ _ _ hu];rfl
 ·rw [World.cell?_setCell_other _ _ _ _ (Ne.symm e)];exact h
def QPost (R:List ByteArray × Bool) (w:World) (e:Ending) (w':World):Prop:=∃ v,e = .returned (.tuple #[v,.bool R.2])/\OwnAt w' w.heap.size v R.1.length R.1/\Below w.heap.size w w'
theorem QPost.none {R:List ByteArray × Bool} {b:Bool} (h:R=([],b)) (hb:Below w.heap.size w w'):QPost R w (.returned (.tuple #[.slice none 0 0,.bool b])) w':=by
 unfold QPost;rw [h];exact ⟨_,rfl,OwnAt.nil _ _,hb⟩
end
section
open Go.PlainAid (bt)
variable {L:List ByteArray}
theorem split_parts {p x:ByteArray} (hp:p ≠ ⟨#[47]⟩) (h:(segs (lb p)).map ba=x::L):splitB p=if x.size=0/\1<=L.length/\L.length<=4/\(∀ s ∈ L,nameB s=true) then (L,true) else ([],false):=by
 unfold splitB
 cases e:lb p with
 | nil =>
  rw [e] at h;simp only [segs,List.map_cons,List.map_nil,List.cons.injEq] at h;rw [<-h.2,if_neg (fun q=>by have:=q.2.1;simp at this)]
  rfl
 | cons c r =>
  rw [e] at h
  by_cases hc:c=47
  ·subst hc
   have hr:r ≠ []:=fun q=>by
    subst q;apply hp;have:=congrArg ba e
    rwa [ba_lb] at this
   have e1:segs (47::r)=[]::segs r:=by simp [segs]
   rw [e1,List.map_cons,List.cons.injEq] at h;obtain ⟨h1,h2⟩:=h;have hx:x.size=0:=by rw [<-h1];rfl
   have hlen:L.length=(segs r).length:=by rw [<-h2,List.length_map]
   have hpos:1<=L.length:=by
    rw [hlen];exact List.length_pos_iff.2 (qiu r)
   have hall:(∀ s ∈ L,nameB s=true)↔(segs r).all nameL=true:=by
    rw [<-h2,List.all_eq_true];constructor
    ·intro q l hl
     have:=q (ba l) (List.mem_map.2 ⟨l,hl,rfl⟩);unfold nameB at this
     rwa [lb_ba] at this
    ·intro q s hs
     obtain ⟨l,hl,rfl⟩:=List.mem_map.1 hs;unfold nameB;rw [lb_ba];exact q l hl
   have es:qcl (47::r)=if (segs r).all nameL=true/\(segs r).length<=4 then (segs r,true) else ([],false):=by
    unfold qcl;simp only;rw [if_pos trivial,if_neg hr]
   rw [es]
   by_cases q:(segs r).all nameL=true/\(segs r).length<=4
   ·rw [if_pos q,if_pos ⟨hx,hpos,by omega,hall.2 q.1⟩]
    simp only;rw [h2]
   ·rw [if_neg q,if_neg (fun k=>q ⟨hall.1 k.2.2.2,by have:=k.2.2.1;omega⟩)]
    rfl
  ·have e2:qcl (c::r)=([],false):=by unfold qcl;exact if_neg hc
   rw [e2]
   obtain ⟨y,t,ht⟩:∃ y t,segs r=y::t:=by
    cases q:segs r with
    | nil=>exact absurd q (qiu r)
    | cons y t=>exact ⟨y,t,rfl⟩
   rw [qol hc ht,List.map_cons,List.cons.injEq] at h
   have hx:x.size ≠ 0:=by
    rw [<-h.1]
    show (c::y).toArray.size ≠ 0
    simp
   rw [if_neg (fun k=>hx k.1)]
   rfl
theorem parts_ne (p:ByteArray):∃ x L,(segs (lb p)).map ba=x::L:=by
 cases q:segs (lb p) with
 | nil=>exact absurd q (qiu _)
 | cons y t=>exact ⟨ba y,t.map ba,rfl⟩
theorem strClone9 (s:ByteArray) (w:World) (h:s.size<=281474976710656):Calls Tryz.prog 103 #[.string s] w fun e w'=>e = .returned (.string s)/\Below w.heap.size w w':=by
 go_enter Tryz.func103,Tryz.ntmps103;go_wp2_with fail;refine (Tryz.stringslite_Clone s _ h).mono ?_;rintro e w1 ⟨rfl,hb⟩;go_wp2_with fail;go_ret;exact ⟨rfl,hb⟩
theorem OwnAt.same {w:World} {base g off n cap k:Nat} (h:OwnAt w base (.slice (some ⟨g,off,none⟩) n cap) n L) (hk:k<L.length):OwnAt (w.setCell ⟨g,off+k,none⟩ (.string (L.getD k ⟨#[]⟩))) base (.slice (some ⟨g,off,none⟩) n cap) n L:=by
 obtain ⟨hl,h | ⟨g',off',cap',e,hb,hn,hf,hc⟩⟩:=h
 ·cases h.1
 ·cases e
  have hs:=hc.set k (L.getD k ⟨#[]⟩) hk
  have e2:L.set k (L.getD k ⟨#[]⟩)=L:=by
   have:L.getD k ⟨#[]⟩=L[k]:=by simp [List.getD,hk]
   rw [this];exact List.set_getElem_self hk
  rw [e2] at hs;exact ⟨hl,.inr ⟨g,off,cap,rfl,hb,hn,fun j hj=>⟨isSome_set (hf j hj).1,(World.frozen?_setCell _ _ _ _).trans (hf j hj).2⟩,hs⟩⟩
theorem seg_small (p:ByteArray):∀ s ∈ (segs (lb p)).map ba,s.size<=p.size:=by
 have h:∀ (l:List UInt8),∀ t ∈ segs l,t.length<=l.length:=by
  intro l
  induction l with
  | nil=>intro t ht;simp [segs] at ht;subst ht;simp
  | cons c r ih =>
   intro t ht;unfold segs at ht;split at ht
   ·rcases List.mem_cons.1 ht with rfl | q
    ·simp
    ·have:=ih t q;simp;omega
   ·split at ht
    ·rename_i q;exact absurd q (qiu r)
    ·rename_i y u q
     rcases List.mem_cons.1 ht with rfl | k
     ·have:=ih y (by rw [q];simp);simp;omega
     ·have:=ih t (by rw [q];simp [k]);simp;omega
 intro s hs;obtain ⟨l,hl,rfl⟩:=List.mem_map.1 hs;exact h _ l hl
theorem qhs (p:ByteArray) (w:World) (hs:p.size<=1048576):Calls Tryz.prog 118 #[.string p] w fun e w'=>QPost (splitB p) w e w':=by
 by_cases h1:p=⟨#[47]⟩
 ·have HE:=zS (qlw h1)
  have h1':(p.toList==[47])=true:=by rw [h1,Go.ByteArray.toList_eq];rfl
  have HP:=zS h1;clear h1;go_enter Tryz.func118,Tryz.ntmps118;go_wp2_with fail;go_ret2
  exact QPost.none HE.1 zB
 have h1':(p.toList==[47])=false:=by
  rw [beq_eq_false_iff_ne];intro e;rw [Go.ByteArray.toList_eq] at e;exact h1 (ByteArray.ext (Array.toList_inj.1 e))
 have HB0:=zS (fun W=>implBetween p W hs);obtain ⟨x,L,hxl⟩:=parts_ne p;have hsm:=seg_small p;have hsp:=split_parts h1 hxl
 have hln:(segs (lb p)).length=L.length+1:=by
  have:=congrArg List.length hxl
  rwa [List.length_map,List.length_cons] at this
 rw [hln,hxl] at HB0;rw [hxl] at hsm;have HSM:=zS hsm;have HSP:=zS hsp;clear h1 hxl hsm hsp hln;obtain ⟨n,hn⟩:∃ n,n=L.length:=⟨_,rfl⟩;rw [<-hn] at HB0 HSP;have HN:=zS hn;clear hn;go_enter Tryz.func118,Tryz.ntmps118;go_wp2_with fail;refine (HB0.1 _).mono ?_;rintro e w1 ⟨v,rfl,hown,hb⟩;obtain ⟨g,cap,rfl,hcap⟩:=qkp hown (by omega);have HB:=zS hb;have hw:=qan hown;have c0:=(hw.2 0 (.string x) rfl).1;have HOT:=zS (own_tail hown);have z1:=hb.size;clear hb hw hown HB0
 by_cases hx:x.size=0
 case neg =>
  have hx1:(x.toList != [])=true:=by
   rw [bne_iff_ne];intro q;rw [Go.ByteArray.toList_eq] at q;exact hx (show x.data.size=0 by rw [<-Array.length_toList,q];rfl)
  have hx2:¬ x.toList=[]:=bne_iff_ne.1 hx1;have HE:Sh (splitB p=([],false)):=⟨by rw [HSP.1,if_neg (fun q=>hx q.1)]⟩;clear HSP hx
  by_cases hc1:cap=1
  all_goals
   go_wp2_with fail;go_quiet (fail)
   go_wp2_with fail;go_ret2
   exact QPost.none HE.1 (below_drewN HB.1 _)
 have hx1:(x.toList != [])=false:=by
  rw [bne_eq_false_iff_eq,Go.ByteArray.toList_eq];exact List.eq_nil_of_length_eq_zero (by rw [Array.length_toList];exact hx)
 have hx2:x.toList=[]:=by rwa [bne_eq_false_iff_eq] at hx1
 by_cases hn1:(n:Int)<1
 ·have HE:Sh (splitB p=([],false)):=⟨by rw [HSP.1,if_neg (fun q=>by have:=q.2.1;omega)]⟩
  have hn5:¬ (1:Int)<=(n:Int):=by omega
  clear HSP hx
  by_cases hc1:cap=1
  all_goals
   go_wp2_with fail;go_quiet (fail)
   go_wp2_with fail;go_ret2
   exact QPost.none HE.1 (below_drewN HB.1 _)
 by_cases hn4:(4:Int)<(n:Int)
 ·have HE:Sh (splitB p=([],false)):=⟨by rw [HSP.1,if_neg (fun q=>by have:=q.2.2.1;omega)]⟩
  have hn5:(1:Int)<=(n:Int):=by omega
  have hn6:¬ (n:Int)<=4:=by omega
  clear HSP hx
  by_cases hc1:cap=1
  all_goals
   go_wp2_with fail;go_quiet (fail)
   go_wp2_with fail;go_ret2
   exact QPost.none HE.1 (below_drewN HB.1 _)
 have hc1:¬ cap=1:=by omega
 have hn5:(1:Int)<=(n:Int):=by omega
 have hn6:(n:Int)<=4:=by omega
 have HE:Sh (splitB p=if (∀ s ∈ L,nameB s=true) then (L,true) else ([],false)):=⟨by
  rw [HSP.1]
  by_cases q:∀ s ∈ L,nameB s=true
  ·rw [if_pos q,if_pos ⟨hx,by omega,by omega,q⟩]
  ·rw [if_neg q,if_neg (fun k=>q k.2.2.2)]⟩
 clear HSP hx;go_wp2_with fail;go_quiet (fail)
 go_wp2_with fail;go_loopw [32] (fun i wr=>∃ (k:Nat),i = .int .i64 k/\k<=n/\Sh (∀ j,j<k->nameB (L.getD j ⟨#[]⟩)=true)/\Sh (OwnAt wr w.heap.size (.slice (some ⟨g,1,none⟩) n (cap - 1)) n L)/\Sh (Below w.heap.size w wr)) (fun i _=>n - (intOf i).toNat)
 case atStart=>exact ⟨0,rfl,Nat.zero_le _,⟨fun j hj=>by omega⟩,⟨HOT.1.kept zL (fun _ _=>rfl)⟩,⟨below_drewN HB.1 _⟩⟩
 case round =>
  clear HOT HB c0;obtain ⟨k,rfl,hk,hall,hown,hbl⟩:=hrel
  by_cases hlt:k<n
  ·have hkL:k<L.length:=by have:=HN.1;omega
   obtain ⟨_,q | ⟨g',off',cap',e',hgb,hnc,hf,hoc⟩⟩:=hown.1
   ·cases q.1
   cases e';have c1:=(hoc.2 k hkL).1;have c2:=(hoc.2 k hkL).2;have hg:=hoc.1;have hB:=hbl.1.size;have k0:(0:Int)<=(k:Int):=by omega
   have k1:(k:Int)<(n:Int):=by omega
   have hmem:L.getD k ⟨#[]⟩ ∈ L:=by simp [List.getD,hkL]
   have hsz:(L.getD k ⟨#[]⟩).size<=1048576:=by have:=HSM.1 _ (List.mem_cons_of_mem x hmem);omega
   have HNA:=zS (fun W=>qlv (L.getD k ⟨#[]⟩) W hsz);have HCL:=zS (fun W=>strClone9 (L.getD k ⟨#[]⟩) W (by omega));clear hf hoc
   cases hnm:nameB (L.getD k ⟨#[]⟩) with
   | false =>
    have HF:Sh (splitB p=([],false)):=⟨by rw [HE.1,if_neg (fun q=>by have:=q _ hmem;rw [hnm] at this;cases this)]⟩;rw [hnm] at HNA;generalize L.getD k ⟨#[]⟩=y at *;clear hnm hmem HCL HE;go_wp2_with fail;refine (HNA.1 _).mono ?_;rintro e w2 ⟨rfl,hb2⟩;have HB2:=zS (hbl.1.trans (hb2.mono hbl.1.size));clear hb2;go_wp2_with fail;go_ret2
    exact QPost.none HF.1 HB2.1
   | true =>
    have HA:Sh (∀ j,j<k+1->nameB (L.getD j ⟨#[]⟩)=true):=⟨fun j hj=>by
     by_cases e:j=k
     ·subst e;exact hnm
     ·exact hall.1 j (by omega)⟩
    have HSA:=zS (fun W (q:OwnAt W w.heap.size (.slice (some ⟨g,1,none⟩) n (cap - 1)) n L)=>q.same hkL);rw [hnm] at HNA;generalize L.getD k ⟨#[]⟩=y at *;clear hnm hmem HE hall;go_wp2_with fail;refine (HNA.1 _).mono ?_;rintro e w2 ⟨rfl,hb2⟩;have HB2:=zS (hbl.1.trans (hb2.mono hbl.1.size));have HO2:=zS (hown.1.below hb2);rw [<-hb2.cell (p:=⟨g,1+k,none⟩) hg] at c1;rw [<-hb2.frozen (p:=⟨g,1+k,none⟩) hg] at c2;have hg2:=Nat.lt_of_lt_of_le hg hb2.size;clear hb2 HNA hown hbl;go_wp2_with fail;refine (HCL.1 _).mono ?_;rintro e w3 ⟨rfl,hb3⟩;have HB3:=zS (HB2.1.trans (hb3.mono HB2.1.size));have HO3:=zS (HO2.1.below hb3);rw [<-hb3.cell (p:=⟨g,1+k,none⟩) hg2] at c1;rw [<-hb3.frozen (p:=⟨g,1+k,none⟩) hg2] at c2;have hg3:=Nat.lt_of_lt_of_le hg2 hb3.size;clear hb3 HCL HO2 HB2;have HO4:=zS (HSA.1 _ HO3.1);have HB4:=zS (HB3.1.grown (grownBy_setCell w3 g (1+k) (.string y)) HB3.1.size (fun j hj=>by cases hj;exact hgb));clear HO3 HB3 HSA;go_wp2_with fail;go_roundw
    case rel=>exact ⟨k+1,by go_num,by omega,HA,HO4,HB4⟩
    case measure=>simp [intOf];omega
  ·have HF:Sh (splitB p=(L,true)):=⟨by
    rw [HE.1,if_pos (fun s hs=>?_)];obtain ⟨j,hj,rfl⟩:=List.mem_iff_getElem.1 hs;have:=hall.1 j (by have:=HN.1;omega)
    simpa [List.getD,hj] using this⟩
   have k1:¬ (k:Int)<(n:Int):=by omega
   clear hall HE;go_wp2_with fail;go_ret2
   unfold QPost;rw [HF.1];exact ⟨_,rfl,by rw [<-HN.1];exact hown.1,hbl.1⟩
end
section
attribute [local irreducible] nameB splitB joinB qab tsum
end
def iv (l:List Int):List Value:=l.map fun x=>.int .i64 x
theorem join_size {I:List ByteArray} (h:TFit I):(joinB I).size<=1048576:=by
 by_cases e:I=[]
 ·subst e;decide
 ·rw [qqo e,qlx];exact h
section
open Go.PlainAid (bt)
variable {L:List ByteArray} {base n:Nat} {v:Value} {w:World}
theorem qql (L:List (List UInt8)):(47::Lib.join L [47])=joinP L:=by
 cases L with
 | nil=>rfl
 | cons x L =>
  unfold joinP;rw [if_neg (by simp)]
  induction L generalizing x with
  | nil=>simp [Lib.join]
  | cons y L ih =>
   have:=ih y;simp only [List.map_cons,List.flatten_cons,List.cons_append,List.cons.injEq,true_and] at this ⊢;rw [<-this];simp [Lib.join]
theorem joinP_len (L:List ByteArray) (h:TFit L):(Lib.join (L.map lb) [47]).length<=2097152:=by
 have e:=congrArg List.length (qql (L.map lb));have:=join_size h
 have hb:(joinB L).size=(joinP (L.map lb)).length:=by
  unfold joinB
  show (joinP (L.map lb)).toArray.size=_
  simp
 rw [List.length_cons] at e;omega
theorem implJoinPath (w:World) (u:Value) (L:List ByteArray) (lo hi:Nat) (hu:CSee w u L lo hi) (hf:TFit L):Calls Tryz.prog 184 #[u] w fun e w'=>e = .returned (.string (joinB L))/\Below w.heap.size w w':=by
 obtain ⟨a,cap,rfl,hc,hr⟩:=hu;have hjl:=joinP_len L hf
 have HJ:Sh (joinB L=(⟨#[47]⟩:ByteArray)++⟨(Lib.join (L.map lb) [47]).toArray⟩):=⟨by
  unfold joinB;rw [<-qql];apply ByteArray.ext
  simp⟩
 by_cases h0:L=[]
 ·subst h0
  have HN:=zS (fun W=>Tryz.strings_Join_none a cap ⟨#[47]⟩ W);clear hr hf hjl;go_enter Tryz.func184,Tryz.ntmps184;go_wp2_with fail;refine (HN.1 _).mono ?_;rintro e w1 ⟨rfl,hw⟩;subst hw;go_wp2_with fail;go_ret;exact ⟨rfl,zB⟩
 ·obtain ⟨b,off,rfl,hb,hcs⟩:=qqn hr (List.length_pos_iff.2 h0)
  have hn:L.length<=1048576:=by unfold TFit at hf;omega
  have HN:=zS (Tryz.strings_Join b off cap L ⟨#[47]⟩ w (fun j x hx=>by
   obtain ⟨hj,e⟩:=List.getElem?_eq_some_iff.1 hx;have:=hcs j hj;rw [this]
   simp [List.getD,hj,e]) hb (by omega) hc (by
    show (Lib.join (L.map lb) [47]).length<=_
    omega))
  have hsz:((⟨(Lib.join (L.map lb) [47]).toArray⟩:ByteArray)).size<=2097152:=by
   show (Lib.join (L.map lb) [47]).toArray.size<=_
   simpa using hjl
  have HN':Sh (Calls Tryz.prog 199 #[.slice (some ⟨b,off,none⟩) L.length cap,.string ⟨#[47]⟩] w fun e w'=>e = .returned (.string ⟨(Lib.join (L.map lb) [47]).toArray⟩)/\Below w.heap.size w w'):=HN;generalize (⟨(Lib.join (L.map lb) [47]).toArray⟩:ByteArray)=J at *;clear hr hf hjl hcs HN h0;go_enter Tryz.func184,Tryz.ntmps184;go_wp2_with fail;refine HN'.out.mono ?_;rintro e w1 ⟨rfl,hb1⟩;go_wp2_with fail;go_ret;exact ⟨by rw [HJ.1];rfl,hb1⟩
theorem OwnAt.form (h:OwnAt w base v n L):∃ a cap,v = .slice a n cap:=by
 obtain ⟨_,⟨e,h0⟩ | ⟨g,off,cap,e,_⟩⟩:=h
 ·exact ⟨none,0,by rw [e,h0]⟩
 ·exact ⟨_,cap,e⟩
theorem OwnAt.some' (h:OwnAt w base v n L) (hp:0<n):∃ g off cap,v = .slice (some ⟨g,off,none⟩) n cap/\n<=cap/\g<w.heap.size/\∀ j,j<L.length->w.cell? ⟨g,off+j,none⟩=some (.string (L.getD j ⟨#[]⟩)):=by
 obtain ⟨_,⟨_,h0⟩ | ⟨g,off,cap,e,_,hn,_,hc⟩⟩:=h
 ·omega
 ·exact ⟨g,off,cap,e,hn,hc.1,fun j hj=>(hc.2 j hj).1⟩
theorem CSee.below {w w':World} {lo hi:Nat} (h:CSee w v L lo hi) (hb:Below w.heap.size w w'):CSee w' v L lo hi:=by
 obtain ⟨a,cap,e,hc,hr⟩:=h;obtain ⟨a',cap',e',hr'⟩:=(show SSee w v L lo hi from ⟨a,cap,e,hr⟩).below hb;rw [e] at e';cases e';exact ⟨a,cap,e,hc,hr'⟩
theorem qgy (p:ByteArray) (w:World) (hs:p.size<=1048576):Calls Tryz.prog 156 #[.string p] w fun e w'=>qfj p w e w':=by
 have HS:=zS (fun W=>qhs p W hs);have hnm:=qcm p;unfold QPost at HS;unfold qfj;obtain ⟨L,ok,hre⟩:∃ L ok,splitB p=(L,ok):=⟨_,_,rfl⟩;rw [hre] at HS hnm;have HN:=zS hnm;clear hnm
 cases ok with
 | false =>
  rw [qhv hre (.inl rfl)];clear hre;go_enter Tryz.func156,Tryz.ntmps156;go_wp2_with fail;refine (HS.1 _).mono ?_;rintro e w1 ⟨v,rfl,ho,hb⟩;obtain ⟨a,cap,rfl⟩:=ho.form;have HB:=zS hb;clear ho hb;go_wp2_with fail;go_ret3
  exact ⟨rfl,HB.1⟩
 | true =>
  rcases List.eq_nil_or_concat L with rfl | ⟨I,x,rfl⟩
  ·rw [qhv hre (.inr rfl)]
   clear hre;go_enter Tryz.func156,Tryz.ntmps156;go_wp2_with fail;refine (HS.1 _).mono ?_;rintro e w1 ⟨v,rfl,ho,hb⟩;obtain ⟨a,cap,rfl⟩:=ho.form;have HB:=zS hb;clear ho hb;go_wp2_with fail;go_ret3
   exact ⟨rfl,HB.1⟩
  ·rw [List.concat_eq_append] at *
   rw [qly hre];obtain ⟨J,hJ⟩:∃ J,J=joinB I:=⟨_,rfl⟩;have HJE:=zS hJ;rw [<-hJ];clear hJ;have h4:=HN.1.2;have HF:Sh (TFit I):=⟨qok (fun s h=>HN.1.1 s (List.mem_append.2 (.inl h))) (by rw [List.length_append] at h4;omega)⟩;obtain ⟨m,hm⟩:∃ m,m=I.length:=⟨_,rfl⟩;have HM:=zS hm;have hm4:m<=4:=by rw [List.length_append] at h4;omega
   rw [show (I++[x],true).1.length=m+1 by simp [hm]] at HS;clear hre h4 hm;go_enter Tryz.func156,Tryz.ntmps156;go_wp2_with fail;refine (HS.1 _).mono ?_;rintro e w1 ⟨v,rfl,ho,hb⟩;obtain ⟨g,off,cap,rfl,hcap,hg,hcs⟩:=ho.some' (by omega)
   have d0:w1.cell? ⟨g,off+m,none⟩=some (.string x):=by
    rw [hcs m (by rw [List.length_append,HM.1];simp)];simp [List.getD,HM.1]
   have hsee:CSee w1 (.slice (some ⟨g,off,none⟩) m cap) I 0 w1.heap.size:=⟨_,cap,by rw [HM.1],by rw [<-HM.1];omega,fun _=>⟨g,off,rfl,Nat.zero_le _,hg,hg,fun i u hu=>by
    have hi:i<I.length:=by
     have:=(List.getElem?_eq_some_iff.1 hu).1
     rwa [qph] at this
    rw [qox I i hi] at hu;cases hu;rw [hcs i (by rw [List.length_append];omega)]
    simp [List.getD,List.getElem?_append_left hi]⟩⟩
   have HJ:=zS (fun W (hW:Below w1.heap.size w1 W)=>implJoinPath W _ _ _ _ (hsee.below hW) HF.1);have HB:=zS hb;have hm0:(((m+1:Nat):Int)==0)=false:=by rw [beq_eq_false_iff_ne];omega
   obtain ⟨n,hn⟩:∃ n,n=m+1:=⟨_,rfl⟩;rw [<-hn] at hcap hm0 ⊢;have hnm:(n:Int) - 1=(m:Int):=by omega
   have hmn:(m:Int)<(n:Int):=by omega
   have hmc:(m:Int)<=(cap:Int):=by omega
   have hm9:(0:Int)<=(m:Int):=by omega
   have hwr:IntKind.i64.wrap ((n:Int) - 1)=(m:Int):=by rw [hnm];exact IntWalk.i64_in _ ⟨by omega,by omega⟩
   rw [<-HJE.1] at HJ;clear ho hb hcs hsee hn HN HM hnm;go_wp2_with fail
   go_region_held3 (fun w'=>w'.cell? ⟨g,off+m,none⟩=some (.string x))
    (first | assumption | (exact (hb9.cell (p:=⟨g,off+m,none⟩) hg).trans (by assumption)) | go_keep)
    (first | (go_at_call 184;refine (HJ.1 _ (by first | exact zB | exact Below.drew zB)).mono ?_;rintro e w9 ⟨rfl,hb9⟩))
   all_goals
    go_wp2_with fail;go_ret3
    exact ⟨rfl,by first | exact HB.1.trans (hb9.mono HB.1.size) | exact HB.1.trans (((Below.drew (Below.refl w1.heap.size w1)).trans hb9).mono HB.1.size)⟩
end
theorem fileNameOk_any (s:ByteArray) (w:World) :
  Calls Tryz.prog 165 #[.string s] w fun e w'=>e = .returned (.bool (decide (1<=s.size/\s.size<=8)))/\w'=w:=by
 by_cases h1:1<=s.size
 ·by_cases h2:s.size<=8
  ·have e:decide (1<=s.size/\s.size<=8)=true:=by simp;omega
   rw [e];have h1':(1:Int)<=(s.size:Int):=by omega
   have h2':(s.size:Int)<=8:=by omega
   go_enter Tryz.func165,Tryz.ntmps165;go_wp2_with fail;go_ret;exact ⟨rfl,rfl⟩
  ·have e:decide (1<=s.size/\s.size<=8)=false:=by simp;omega
   rw [e];have h1':(1:Int)<=(s.size:Int):=by omega
   have h2':¬ (s.size:Int)<=8:=by omega
   go_enter Tryz.func165,Tryz.ntmps165;go_wp2_with fail;go_ret;exact ⟨rfl,rfl⟩
 ·have e:decide (1<=s.size/\s.size<=8)=false:=by simp;omega
  rw [e];have h1':¬ (1:Int)<=(s.size:Int):=by omega
  go_enter Tryz.func165,Tryz.ntmps165;go_wp2_with fail;go_ret;exact ⟨rfl,rfl⟩
theorem qav (s:ByteArray) (w:World) (b:Bool) (h:decide (1<=s.size/\s.size<=8)=b):Calls Tryz.prog 165 #[.string s] w fun e w'=>e = .returned (.bool b)/\w'=w:=by
 have:=fileNameOk_any s w
 rwa [h] at this
theorem qjl (a b:List UInt8):Op.bytesLess a b = !(Op.bytesLess b a||b==a):=by
 rw [bytesLess_eq,bytesLess_eq]
 by_cases h:a<b
 ·have h1:¬ b<a:=List.lt_asymm h
  have h2:b ≠ a:=fun e=>by subst e;exact List.lt_irrefl _ h
  simp [h,h1,h2]
 ·by_cases h2:b=a
  ·subst h2;simp [List.lt_irrefl]
  ·have h3:b<a:=by
    by_cases h4:b<a
    ·exact h4
    ·exact absurd (List.le_antisymm (List.not_lt.1 h) (List.not_lt.1 h4)) h2
   simp [h,h3]
theorem implDiskOk:ImplDiskOk:=by
 intro a fs cap w hr hf hl;have hb0:Below w.heap.size w (w.alloc (.cells #[.slice a fs.length cap] 40)):=zB.alloc zL _
 by_cases h30:30<fs.length
 ·rw [qbt (fun h=>by have:=h.1;omega)]
  have h30':(30:Int)<(fs.length:Int):=by omega
  clear hr hf;go_enter Tryz.func130,Tryz.ntmps130;go_wp2_with fail;go_ret;exact ⟨rfl,hb0⟩
 ·have h30':¬ (30:Int)<(fs.length:Int):=by omega
  have HR:Hid (FRow w a fs):=hr;have HF:Hid (FFit fs):=hf;have hbox:=qac w #[.slice a fs.length cap] 40;have HX:Hid (WCells (w.alloc (.cells #[.slice a fs.length cap] 40)) w.heap.size [.slice a fs.length cap]):=hbox;have HB0:Hid (Below w.heap.size w (w.alloc (.cells #[.slice a fs.length cap] 40))):=hb0;clear hr hf hbox hb0;generalize hO:dOkB fs=O;have HO:Hid (dOkB fs=O):=hO;clear hO;go_enter Tryz.func130,Tryz.ntmps130;go_wp2_with fail;go_loopw [12] (fun i wr=>∃ (k:Nat),i = .int .i64 k/\k<=fs.length/\(∀ j,j<k->FAt fs j)/\WCells wr w.heap.size [.slice a fs.length cap]/\Below w.heap.size w wr) (fun i _=>fs.length - (intOf i).toNat)
  case atStart=>exact ⟨0,rfl,Nat.zero_le _,fun j hj=>by omega,HX.out,HB0.out⟩
  case round =>
   obtain ⟨k,rfl,hk,hgood,hx,hb⟩:=hrel;have HGD:Hid (∀ j,j<k->FAt fs j):=hgood;have x0:=(hx.2 0 _ rfl).1
   by_cases hlt:k<fs.length
   ·obtain ⟨b,off,rfl,lb,hc⟩:=FRow.at (HR.out.stays hb) (by omega)
    obtain ⟨d0,d1,d2⟩:=hc k hlt;obtain ⟨f,hfe⟩:∃ f,f=fs[k]:=⟨_,rfl⟩;rw [<-hfe] at d0 d1 d2;have HFE:Hid (fs.getD k default=f):=(qbc fs k hlt).trans hfe.symm;have k0:(0:Int)<=(k:Int):=by omega
    have k1:(k:Int)<(fs.length:Int):=by omega
    have hbx:Below w.heap.size w (wr.alloc (.cells #[.string f.name,.string f.text,.int .i64 f.kept] 150)):=hb.alloc hb.size _;have HBX:Hid (Below w.heap.size w (wr.alloc (.cells #[.string f.name,.string f.text,.int .i64 f.kept] 150))):=hbx;have hxx:=hx.alloc (.cells #[.string f.name,.string f.text,.int .i64 f.kept] 150);have HXX:Hid (WCells (wr.alloc (.cells #[.string f.name,.string f.text,.int .i64 f.kept] 150)) w.heap.size [.slice (some ⟨b,off,none⟩) fs.length cap]):=hxx;have y0:=(hxx.2 0 _ rfl).1;have HXN:∀ q,WCells ((wr.alloc (.cells #[.string f.name,.string f.text,.int .i64 f.kept] 150)).drewN q) w.heap.size [.slice (some ⟨b,off,none⟩) fs.length cap]:=fun q=>hxx;have HBN:∀ q,Below w.heap.size w ((wr.alloc (.cells #[.string f.name,.string f.text,.int .i64 f.kept] 150)).drewN q):=fun q=>hbx.trans ⟨rfl,rfl,rfl,zL,fun _ _=>rfl⟩;have lb':b<wr.heap.size:=lb;clear hfe hbx hxx hx
    by_cases hA:decide (1<=f.name.size/\f.name.size<=8)=true
    ·by_cases hD:0<k->Op.bytesLess (fs.getD (k - 1) default).name.toList f.name.toList=true
     ·have HD:Hid (0<k->Op.bytesLess (fs.getD (k - 1) default).name.toList f.name.toList=true):=hD
      by_cases hB:f.text.size<=20000/\0<=f.kept/\f.kept<=(f.text.size:Int)
      ·have hB':¬ (20000:Int)<(f.text.size:Int):=by omega
       have hB2:¬ f.kept<0:=by omega
       have hB3:¬ (f.text.size:Int)<f.kept:=by omega
       have HBB:Hid (f.text.size<=20000/\0<=f.kept/\f.kept<=(f.text.size:Int)):=hB;clear hB
       by_cases hk0:0<k
       ·obtain ⟨p0,p1,p2⟩:=hc (k - 1) (by omega)
        obtain ⟨f1,hf1⟩:∃ f1,f1=fs[k - 1]:=⟨_,rfl⟩;rw [<-hf1] at p0;have HF1:Hid (fs.getD (k - 1) default=f1):=(qbc fs (k - 1) (by omega)).trans hf1.symm;have q0:(wr.alloc (.cells #[.string f.name,.string f.text,.int .i64 f.kept] 150)).cell? ⟨b,off+(k - 1)*3,none⟩=some (.string f1.name):=((zB.alloc zL _:Below wr.heap.size wr (wr.alloc (.cells #[.string f.name,.string f.text,.int .i64 f.kept] 150))).cell (p:=⟨b,off+(k - 1)*3,none⟩) lb').trans p0;have hkp:(0:Int)<(k:Int):=by omega
        have hk1:(k:Int) - 1=((k - 1:Nat):Int):=by omega
        have hk2:(0:Int)<=((k - 1:Nat):Int):=by omega
        have hk3:((k - 1:Nat):Int)<(fs.length:Int):=by omega
        have hle:(Op.bytesLess f.name.toList f1.name.toList||f.name.toList==f1.name.toList)=false:=by
         have h2:=hD hk0;rw [HF1.out,qjl] at h2
         simpa using h2
        clear hc hf1 p0 p1 p2 hD;go_wp2_with fail
        go_quiet (first
         | (go_at_call 165;exact Calls.quiet_of_same (qav _ _ true hA)))
        go_wp2_with fail;go_roundw
        case rel=>exact ⟨k+1,by go_num,by omega,fun j hj=>by rcases Nat.lt_succ_iff_lt_or_eq.1 hj with h | h;exact HGD.out j h;subst h;exact ⟨by rw [HFE.out];exact ⟨of_decide_eq_true hA,HBB.out.1,HBB.out.2.1,HBB.out.2.2⟩,fun h=>by rw [HFE.out];exact HD.out h⟩,HXN _,HBN _⟩
        case measure=>simp [intOf];omega
       ·have hkn:decide ((0:Int)<(k:Int))=false:=by simp;omega
        clear hc hD;go_wp2_with fail
        go_quiet (first
         | (go_at_call 165;exact Calls.quiet_of_same (qav _ _ true hA)))
        go_wp2_with fail;go_roundw
        case rel=>exact ⟨k+1,by go_num,by omega,fun j hj=>by rcases Nat.lt_succ_iff_lt_or_eq.1 hj with h | h;exact HGD.out j h;subst h;exact ⟨by rw [HFE.out];exact ⟨of_decide_eq_true hA,HBB.out.1,HBB.out.2.1,HBB.out.2.2⟩,fun h=>absurd h hk0⟩,HXN _,HBN _⟩
        case measure=>simp [intOf];omega
      ·have HE:Hid (O=false):=HO.out.symm.trans (qbt (fun h=>hB (by have h2:=(h.2 k hlt).1;rw [HFE.out] at h2;exact ⟨h2.2.1,h2.2.2.1,h2.2.2.2⟩)))
       by_cases hk0:0<k
       ·obtain ⟨p0,p1,p2⟩:=hc (k - 1) (by omega)
        obtain ⟨f1,hf1⟩:∃ f1,f1=fs[k - 1]:=⟨_,rfl⟩;rw [<-hf1] at p0;have HF1:Hid (fs.getD (k - 1) default=f1):=(qbc fs (k - 1) (by omega)).trans hf1.symm;have q0:(wr.alloc (.cells #[.string f.name,.string f.text,.int .i64 f.kept] 150)).cell? ⟨b,off+(k - 1)*3,none⟩=some (.string f1.name):=((zB.alloc zL _:Below wr.heap.size wr (wr.alloc (.cells #[.string f.name,.string f.text,.int .i64 f.kept] 150))).cell (p:=⟨b,off+(k - 1)*3,none⟩) lb').trans p0;have hkp:(0:Int)<(k:Int):=by omega
        have hk1:(k:Int) - 1=((k - 1:Nat):Int):=by omega
        have hk2:(0:Int)<=((k - 1:Nat):Int):=by omega
        have hk3:((k - 1:Nat):Int)<(fs.length:Int):=by omega
        have hle:(Op.bytesLess f.name.toList f1.name.toList||f.name.toList==f1.name.toList)=false:=by
         have h2:=hD hk0;rw [HF1.out,qjl] at h2
         simpa using h2
        clear hc hf1 p0 p1 p2 hD;rcases (by omega:(20000:Int)<(f.text.size:Int)\/(¬ (20000:Int)<(f.text.size:Int)/\f.kept<0)\/(¬ (20000:Int)<(f.text.size:Int)/\¬ f.kept<0/\(f.text.size:Int)<f.kept)) with c1 | ⟨c1,c2⟩ | ⟨c1,c2,c3⟩
        all_goals
         clear hB;go_wp2_with fail
         go_quiet (first
          | (go_at_call 165;exact Calls.quiet_of_same (qav _ _ true hA)))
         go_wp2_with fail;go_ret;exact ⟨congrArg (fun b=>Ending.returned (.bool b)) HE.out.symm,HBN _⟩
       ·have hkn:decide ((0:Int)<(k:Int))=false:=by simp;omega
        clear hc hD;rcases (by omega:(20000:Int)<(f.text.size:Int)\/(¬ (20000:Int)<(f.text.size:Int)/\f.kept<0)\/(¬ (20000:Int)<(f.text.size:Int)/\¬ f.kept<0/\(f.text.size:Int)<f.kept)) with c1 | ⟨c1,c2⟩ | ⟨c1,c2,c3⟩
        all_goals
         clear hB;go_wp2_with fail
         go_quiet (first
          | (go_at_call 165;exact Calls.quiet_of_same (qav _ _ true hA)))
         go_wp2_with fail;go_ret;exact ⟨congrArg (fun b=>Ending.returned (.bool b)) HE.out.symm,HBN _⟩
     ·have HE:Hid (O=false):=HO.out.symm.trans (qbt (fun h=>hD (fun hk0=>by have h2:=(h.2 k hlt).2 hk0;rw [HFE.out] at h2;exact h2)))
      have hk0:0<k:=by
       by_cases h:0<k
       ·exact h
       ·exact absurd (fun h'=>absurd h' h) hD
      obtain ⟨p0,p1,p2⟩:=hc (k - 1) (by omega);obtain ⟨f1,hf1⟩:∃ f1,f1=fs[k - 1]:=⟨_,rfl⟩;rw [<-hf1] at p0;have HF1:Hid (fs.getD (k - 1) default=f1):=(qbc fs (k - 1) (by omega)).trans hf1.symm;have q0:(wr.alloc (.cells #[.string f.name,.string f.text,.int .i64 f.kept] 150)).cell? ⟨b,off+(k - 1)*3,none⟩=some (.string f1.name):=((zB.alloc zL _:Below wr.heap.size wr (wr.alloc (.cells #[.string f.name,.string f.text,.int .i64 f.kept] 150))).cell (p:=⟨b,off+(k - 1)*3,none⟩) lb').trans p0;have hkp:(0:Int)<(k:Int):=by omega
      have hk1:(k:Int) - 1=((k - 1:Nat):Int):=by omega
      have hk2:(0:Int)<=((k - 1:Nat):Int):=by omega
      have hk3:((k - 1:Nat):Int)<(fs.length:Int):=by omega
      have hle:(Op.bytesLess f.name.toList f1.name.toList||f.name.toList==f1.name.toList)=true:=by
       have h2:¬ Op.bytesLess (fs.getD (k - 1) default).name.toList f.name.toList=true:=fun h=>hD (fun _=>h);rw [HF1.out,qjl] at h2
       cases hX:(Op.bytesLess f.name.toList f1.name.toList||f.name.toList==f1.name.toList) with
       | true=>rfl
       | false=>rw [hX] at h2;exact absurd rfl h2
      clear hc hf1 p0 p1 p2 hD;go_wp2_with fail
      go_quiet (first
       | (go_at_call 165;exact Calls.quiet_of_same (qav _ _ true hA)))
      go_wp2_with fail;go_ret;exact ⟨congrArg (fun b=>Ending.returned (.bool b)) HE.out.symm,HBN _⟩
    ·replace hA:decide (1<=f.name.size/\f.name.size<=8)=false:=by simpa using hA
     clear hc;go_wp2_with fail
     go_quiet (first
      | (go_at_call 165;exact Calls.quiet_of_same (qav _ _ false hA)))
     go_wp2_with fail;go_ret;exact ⟨congrArg (fun b=>Ending.returned (.bool b)) ((HO.out.symm.trans (qbt (fun h=>of_decide_eq_false hA (by have h2:=(h.2 k hlt).1;rw [HFE.out] at h2;exact h2.1)))).symm),HBN _⟩
   ·have e:k=fs.length:=by omega
    subst e;go_wp2_with fail;go_ret;exact ⟨congrArg (fun b=>Ending.returned (.bool b)) ((HO.out.symm.trans (qcp ⟨by omega,fun j hj=>HGD.out j (by omega)⟩)).symm),hb⟩
theorem fsum_mem {fs:List FM} {f:FM} (h:f ∈ fs):f.name.size+f.text.size<=fsum fs:=by
 induction fs with
 | nil=>simp at h
 | cons g fs ih =>
  simp only [fsum];rcases List.mem_cons.1 h with rfl | h
  ·omega
  ·have:=ih h;omega
theorem qnv (s:ByteArray) (w:World) (h:s.size<=281474976710656):Calls Tryz.prog 103 #[.string s] w fun e w'=>e = .returned (.string s)/\Below w.heap.size w w':=by
 go_enter Tryz.func103,Tryz.ntmps103;go_wp2_with fail;refine (Tryz.stringslite_Clone s _ h).mono ?_;rintro e w1 ⟨rfl,hb⟩;go_wp2_with fail;go_ret;exact ⟨rfl,hb⟩
end Go.Proofs.YtackbhpgdohimaaGreatDoor
