/- Texts of ours, laid one behind the other: DiskD, MemA, CpA, SpnC, SpnD, NestC, SpnE, TreL, SlG, TreF, TreG, TreH, TreI, SlA, GrwC, GrwD, TreB, BRowM, DrawC. -/
import Derived.Test.YtoglebfiobofoaaGreatDoorQr3
import Derived.Test.YtoglebfiobofoaaGreatDoorQr1
import Derived.Test.YtoglebfiobofoaaGreatDoorQr2
import Derived.Deep.Upon
import Derived.Deep.AppendLies
import Derived.PlainAid
import Derived.Deep.CutRange
import Derived.BigQuiet
import Derived.Deep.RegionHeld3
import Derived.Deep.DrawnRows
/- DiskD: . -/
namespace Go.Proofs.YtoglebfiobofoaaGreatDoor
set_option maxRecDepth 100000
set_option maxHeartbeats 16000000
open Go.RowKit
attribute [local go_sem ↓] Go.wp_at_zero Go.wp_at_succ
theorem qss {a b:ByteArray} (h:a ≠ b):(a.toList==b.toList)=false:=by
 rw [ByteArray.toList_eq,ByteArray.toList_eq,beq_eq_false_iff_ne]
 exact fun e=>h (ByteArray.ext (Array.toList_inj.1 e))
def AtR (fs:List FM) (n:ByteArray) (r:Int):Prop:=
 (r = -1/\∀ f ∈ fs,f.name ≠ n)\/∃ k:Nat,r=(k:Int)/\k<fs.length/\(fs.getD k default).name=n/\∀ j,j<k->(fs.getD j default).name ≠ n
def AtPostD (fs:List FM) (n:ByteArray) (w:World) (e:Ending) (w':World):Prop:=∃ r:Int,e = .returned (.int .i64 r)/\AtR fs n r/\Below w.heap.size w w'
theorem l03At_any (a:Option Addr) (fs:List FM) (cap:Nat) (n:ByteArray) (w:World) (hr:FRow w a fs) (hl:fs.length<=1048576) :
  Calls Tryz.prog 72 #[.agg #[.slice a fs.length cap],.string n] w fun e w'=>AtPostD fs n w e w':=by
 have HR:Hid (FRow w a fs):=hr
 have HX:Hid (WCells (w.alloc (.cells #[.slice a fs.length cap] 28)) w.heap.size [.slice a fs.length cap]):=qad w #[.slice a fs.length cap] 28
 have HB0:Hid (Below w.heap.size w (w.alloc (.cells #[.slice a fs.length cap] 28))):=(Below.refl _ _).alloc (Nat.le_refl _) _
 clear hr
 go_enter Tryz.func72,Tryz.ntmps72
 go_wp2_with fail
 go_loopw [5] (fun i wr=>∃ (k:Nat),i = .int .i64 k/\k<=fs.length/\(∀ j,j<k->(fs.getD j default).name ≠ n)/\WCells wr w.heap.size [.slice a fs.length cap]/\Below w.heap.size w wr) (fun i _=>fs.length - (intOf i).toNat)
 case atStart=>exact ⟨0,rfl,Nat.zero_le _,fun j hj=>by omega,HX.out,HB0.out⟩
 case round =>
  obtain ⟨k,rfl,hk,hno,hx,hb⟩:=hrel
  have HN:Hid (∀ j,j<k->(fs.getD j default).name ≠ n):=hno
  have x0:=(hx.2 0 _ rfl).1
  have HXX:Hid (WCells wr w.heap.size [.slice a fs.length cap]):=hx
  have HB:Hid (Below w.heap.size w wr):=hb
  clear hno hx
  by_cases hlt:k<fs.length
  ·obtain ⟨b,off,rfl,lb,hc⟩:=FRow.at (HR.out.stays hb) (by omega)
   obtain ⟨d0,_,_⟩:=hc k hlt
   obtain ⟨f,hfe⟩:∃ f,f=fs[k]:=⟨_,rfl⟩
   rw [<-hfe] at d0
   have HFE:Hid (fs.getD k default=f):=(qbn fs k hlt).trans hfe.symm
   have k0:(0:Int)<=(k:Int):=by omega
   have k1:(k:Int)<(fs.length:Int):=by omega
   clear hfe hb hc
   by_cases hn:f.name=n
   ·have HNE:Hid (f.name=n):=hn
    have hq:(f.name.toList==n.toList)=true:=by rw [hn];simp
    clear hn
    go_wp2_with fail
    go_ret
    exact ⟨k,rfl,.inr ⟨k,rfl,hlt,by rw [HFE.out];exact HNE.out,HN.out⟩,HB.out⟩
   ·have hq:=qss hn
    have HNE:Hid (f.name ≠ n):=hn
    clear hn
    go_wp2_with fail
    go_roundw
    case rel=>exact ⟨k+1,by go_num,by omega,fun j hj=>by rcases Nat.lt_succ_iff_lt_or_eq.1 hj with h | h;exact HN.out j h;subst h;rw [HFE.out];exact HNE.out,HXX.out,HB.out⟩
    case measure=>simp [intOf];omega
  ·have e:k=fs.length:=by omega
   subst e
   clear hb
   go_wp2_with fail
   go_ret
   refine ⟨-1,rfl,.inl ⟨rfl,fun f hf=>?_⟩,HB.out⟩
   obtain ⟨j,hj,rfl⟩:=List.getElem_of_mem hf
   rw [<-qbn fs j hj]
   exact HN.out j hj
def fileV (fs:List FM) (n:ByteArray):Value:=
 match fs.find? (fun f=>decide (f.name=n)) with
 | none=>.tuple #[.string ⟨#[]⟩,.bool false]
 | some f=>.tuple #[.string f.text,.bool true]
theorem qkp {fs:List FM} {n:ByteArray} (h:∀ f ∈ fs,f.name ≠ n):fileV fs n = .tuple #[.string ⟨#[]⟩,.bool false]:=by
 unfold fileV
 rw [List.find?_eq_none.2 (fun f hf=>by simpa using h f hf)]
theorem qkq {fs:List FM} {n:ByteArray} {k:Nat} (hk:k<fs.length) (h1:(fs.getD k default).name=n) (h2:∀ j,j<k->(fs.getD j default).name ≠ n):fileV fs n = .tuple #[.string (fs.getD k default).text,.bool true]:=by
 unfold fileV
 have e:fs.find? (fun f=>decide (f.name=n))=some fs[k]:=by
  rw [List.find?_eq_some_iff_getElem]
  refine ⟨by rw [<-qbn fs k hk];simpa using h1,k,hk,rfl,fun j hj=>?_⟩
  have:=h2 j hj
  rw [qbn fs j (by omega)] at this
  simpa using this
 rw [e,qbn fs k hk]
theorem qkr (a:Option Addr) (fs:List FM) (cap:Nat) (n:ByteArray) (w:World) (hr:FRow w a fs) (hl:fs.length<=1048576) :
  Calls Tryz.prog 42 #[.agg #[.slice a fs.length cap],.string n] w fun e w'=>e = .returned (fileV fs n)/\Below w.heap.size w w':=by
 have hb0:Below w.heap.size w (w.alloc (.cells #[.slice a fs.length cap] 28)):=(Below.refl _ _).alloc (Nat.le_refl _) _
 have HR:Hid (FRow w a fs):=hr
 have HR0:Hid (FRow (w.alloc (.cells #[.slice a fs.length cap] 28)) a fs):=hr.stays hb0
 have HX:Hid (WCells (w.alloc (.cells #[.slice a fs.length cap] 28)) w.heap.size [.slice a fs.length cap]):=qad w #[.slice a fs.length cap] 28
 have HB0:Hid (Below w.heap.size w (w.alloc (.cells #[.slice a fs.length cap] 28))):=hb0
 generalize hO:fileV fs n=O
 have HO:Hid (fileV fs n=O):=hO
 clear hr hb0 hO
 go_enter Tryz.func42,Tryz.ntmps42
 go_wp2_with fail
 refine (l03At_any a fs cap n _ HR0.out hl).mono ?_
 rintro e w2 ⟨r,rfl,hat,hb2⟩
 have x0:=((HX.out.grow hb2).2 0 _ rfl).1
 have HB:Hid (Below w.heap.size w w2):=HB0.out.trans (hb2.mono HB0.out.size)
 have HR2:Hid (FRow w2 a fs):=HR0.out.stays hb2
 clear hb2
 rcases hat with ⟨rfl,hno⟩ | ⟨k,rfl,hk,h1,h2⟩
 ·have HE:Hid (O = .tuple #[.string ⟨#[]⟩,.bool false]):=HO.out.symm.trans (qkp hno)
  clear hno
  go_wp2_with fail
  go_ret2
  exact ⟨congrArg Ending.returned HE.out.symm,HB.out⟩
 ·have HE:Hid (O = .tuple #[.string (fs.getD k default).text,.bool true]):=HO.out.symm.trans (qkq hk h1 h2)
  obtain ⟨b,off,rfl,lb,hc⟩:=FRow.at HR2.out (by omega)
  obtain ⟨_,d1,_⟩:=hc k hk
  rw [<-qbn fs k hk] at d1
  have k0:(0:Int)<=(k:Int):=by omega
  have k1:(k:Int)<(fs.length:Int):=by omega
  generalize fs.getD k default=f at *
  clear hc h1 h2
  go_wp2_with fail
  go_ret2
  exact ⟨congrArg Ending.returned HE.out.symm,HB.out⟩
theorem qgr {w w':World} {g:Nat} {row:Option Nat} {L:List Value} (h:WCells w g L) (hg:w.grownBy w' row) (hr:row ≠ some g):WCells w' g L:=by
 have hblk:=hg.block g h.1 (fun e=>hr e.symm)
 refine ⟨Nat.lt_of_lt_of_le h.1 hg.size,fun i v hv=>⟨?_,?_⟩⟩
 ·rw [World.cell?_of_block (w:=w) hblk];exact (h.2 i v hv).1
 ·rw [World.frozen?_of_block (w:=w) hblk];exact (h.2 i v hv).2
def FRw (w:World) (va:Option Addr) (X:List Value) (lo hi:Nat):Prop:=(va=none/\X=[])\/∃ g,va=some ⟨g,0,none⟩/\lo<=g/\g<hi/\WCells w g X
theorem FRw.crow {w:World} {va:Option Addr} {X:List Value} {lo hi:Nat} (h:FRw w va X lo hi):CRow w va X:=by
 rcases h with ⟨_,rfl⟩ | ⟨g,rfl,_,_,h⟩
 ·intro hp;simp at hp
 ·exact h.crow
theorem FRw.below {w w':World} {va:Option Addr} {X:List Value} {lo hi:Nat} (h:FRw w va X lo hi) (hb:Below w.heap.size w w'):FRw w' va X lo hi:=by
 rcases h with h | ⟨g,h1,h2,h3,h⟩
 ·exact .inl h
 ·exact .inr ⟨g,h1,h2,h3,h.grow hb⟩
theorem FRw.grown {w w':World} {va:Option Addr} {X:List Value} {lo hi:Nat} {row:Option Nat} (h:FRw w va X lo hi) (hg:w.grownBy w' row) (hr:∀ g,row=some g->g<lo\/hi<=g):FRw w' va X lo hi:=by
 rcases h with h | ⟨g,h1,h2,h3,h⟩
 ·exact .inl h
 ·exact .inr ⟨g,h1,h2,h3,qgr h hg (fun e=>by rcases hr g e with h | h <;> omega)⟩
theorem FRw.of_wcells {w:World} {g lo hi:Nat} {X:List Value} (h:WCells w g X) (h1:lo<=g) (h2:g<hi):FRw w (some ⟨g,0,none⟩) X lo hi:=.inr ⟨g,rfl,h1,h2,h⟩
structure Mem (w0 w:World) (L:List (Nat × List Value)) (R:List (Option Addr × List Value × Nat × Nat)):Prop where
 cells:∀ p ∈ L,WCells w p.1 p.2
 rows:∀ r ∈ R,FRw w r.1 r.2.1 r.2.2.1 r.2.2.2
 low:Below w0.heap.size w0 w
theorem Mem.below {w0 w w':World} {L:List (Nat × List Value)} {R:List (Option Addr × List Value × Nat × Nat)} (M:Mem w0 w L R) (hb:Below w.heap.size w w'):Mem w0 w' L R:=
 ⟨fun p hp=>(M.cells p hp).grow hb,fun r hr=>(M.rows r hr).below hb,M.low.trans (hb.mono M.low.size)⟩
theorem Mem.alloc {w0 w:World} {L:List (Nat × List Value)} {R:List (Option Addr × List Value × Nat × Nat)} (M:Mem w0 w L R) (o:Obj):Mem w0 (w.alloc o) L R:=M.below ((Below.refl _ _).alloc (Nat.le_refl _) o)
theorem Mem.drew {w0 w:World} {L:List (Nat × List Value)} {R:List (Option Addr × List Value × Nat × Nat)} (M:Mem w0 w L R):Mem w0 w.drew L R:=⟨fun p hp=>M.cells p hp,fun r hr=>M.rows r hr,M.low.drew⟩
theorem Mem.box {w0 w:World} {L:List (Nat × List Value)} {R:List (Option Addr × List Value × Nat × Nat)} (M:Mem w0 w L R) (cs:Array Value) (t:TypeId):Mem w0 (w.alloc (.cells cs t)) ((w.heap.size,cs.toList)::L) R:=by
 refine ⟨fun p hp=>?_,(M.alloc _).rows,(M.alloc _).low⟩
 rcases List.mem_cons.1 hp with rfl | h
 ·exact qad w cs t
 ·exact (M.alloc _).cells p h
theorem Mem.row {w0 w:World} {L:List (Nat × List Value)} {R:List (Option Addr × List Value × Nat × Nat)} (M:Mem w0 w L R) {va:Option Addr} {X:List Value} {lo hi:Nat} (h:FRw w va X lo hi):Mem w0 w L ((va,X,lo,hi)::R):=by
 refine ⟨M.cells,fun r hr=>?_,M.low⟩
 rcases List.mem_cons.1 hr with rfl | h'
 ·exact h
 ·exact M.rows r h'
theorem Mem.less {w0 w:World} {L L':List (Nat × List Value)} {R R':List (Option Addr × List Value × Nat × Nat)} (M:Mem w0 w L R) (hL:∀ p ∈ L',p ∈ L) (hR:∀ r ∈ R',r ∈ R):Mem w0 w L' R':=⟨fun p hp=>M.cells p (hL p hp),fun r hr=>M.rows r (hR r hr),M.low⟩
theorem Mem.grown {w0 w w':World} {L:List (Nat × List Value)} {R:List (Option Addr × List Value × Nat × Nat)} {row:Option Nat} (M:Mem w0 w L R) (hg:w.grownBy w' row) (hL:∀ p ∈ L,∀ g,row=some g->g ≠ p.1) (hR:∀ r ∈ R,∀ g,row=some g->g<r.2.2.1\/r.2.2.2<=g) (h0:∀ g,row=some g->w0.heap.size<=g):Mem w0 w' L R:=
 ⟨fun p hp=>qgr (M.cells p hp) hg (fun e=>hL p hp _ e rfl),fun r hr=>(M.rows r hr).grown hg (hR r hr),M.low.grown hg M.low.size h0⟩
theorem Mem.cell {w0 w:World} {L:List (Nat × List Value)} {R:List (Option Addr × List Value × Nat × Nat)} (M:Mem w0 w L R) {g:Nat} {v:Value} (h:(g,[v]) ∈ L):w.cell? ⟨g,0,none⟩=some v:=((M.cells _ h).2 0 _ rfl).1
theorem Mem.lt {w0 w:World} {L:List (Nat × List Value)} {R:List (Option Addr × List Value × Nat × Nat)} (M:Mem w0 w L R) {g:Nat} {X:List Value} (h:(g,X) ∈ L):g<w.heap.size:=(M.cells _ h).1
theorem Mem.at {w0 w:World} {L:List (Nat × List Value)} {R:List (Option Addr × List Value × Nat × Nat)} (M:Mem w0 w L R) {va:Option Addr} {X:List Value} {lo hi:Nat} (h:(va,X,lo,hi) ∈ R):FRw w va X lo hi:=M.rows _ h
theorem wc_by {w w':World} {g:Nat} {q:Option Nat} {L:List Value} (h:WCells w g L) (hg:w.grownBy w' q) (hq:q ≠ some g):WCells w' g L:=by
 have hk:=hg.block g h.1 (fun e=>hq e.symm)
 refine ⟨Nat.lt_of_lt_of_le h.1 hg.size,fun i v hv=>?_⟩
 have h1:=h.2 i v hv
 simp only [World.cell?,World.frozen?,hk] at h1 ⊢
 exact h1
structure NB (w:World) (B:Nat) (v:Value) (rs:List NR):Prop where
 own:w.ownsRow B 87 9 v rs.length (ncs rs)
 rows:∀ r ∈ rs,w.ownsRow B 138 2 (.slice r.loc r.nd.pieces.length r.cap) r.nd.pieces.length (pcs r.nd.pieces)
 apart:rs.Pairwise fun r s=>r.loc ≠ none->s.loc ≠ none->r.loc ≠ s.loc
theorem qei {w:World} {B t sz n:Nat} {v:Value} {L:List Value} (h:w.ownsRow B t sz v n L) (hn:n ≠ 0):∃ g cap cur,v = .slice (some ⟨g,0,none⟩) n cap/\B<=g/\g<w.heap.size/\w.heap[g]?=some (.cells cur t (0,0)):=by
 rcases h.2 with ⟨_,h0⟩ | ⟨g,cap,cur,e,h1,h2,_⟩
 ·exact absurd h0 hn
 ·exact ⟨g,cap,cur,e,h1,(Array.getElem?_eq_some_iff.1 h2).1,h2⟩
theorem qau {w:World} {B t sz n g:Nat} {v:Value} {L:List Value} (h:w.ownsRow B t sz v n L) (e:v.ownBlock=some g):∃ cur,w.heap[g]?=some (.cells cur t (0,0)):=by
 rcases h.2 with ⟨rfl,_⟩ | ⟨g',cap,cur,rfl,_,h2,_⟩
 ·cases e
 ·cases e;exact ⟨cur,h2⟩
theorem qgi {w:World} {B n sz:Nat} {t:TypeId} {v:Value} {L:List Value} (h:w.ownsRow B t sz v n L):∃ a c,v = .slice a n c:=by
 rcases h.2 with ⟨rfl,h0⟩ | ⟨g,cap,cur,e,_⟩
 ·exact ⟨none,0,by rw [h0]⟩
 ·exact ⟨_,_,e⟩
theorem qet {w:World} {B C n sz:Nat} {t:TypeId} {v:Value} {L:List Value} (h:w.ownsRow B t sz v n L) (hC:C<=B):w.ownsRow C t sz v n L:=by
 refine ⟨h.1,?_⟩
 rcases h.2 with q | ⟨g,cap,cur,e,h1,h2⟩
 ·exact .inl q
 ·exact .inr ⟨g,cap,cur,e,Nat.le_trans hC h1,h2⟩
theorem NB.nil (w:World) (B:Nat):NB w B (.slice none 0 0) []:=⟨by simpa [ncs] using World.ownsRow_nil w B 87 9,by simp,List.Pairwise.nil⟩
theorem NB.grown {w w':World} {B:Nat} {v:Value} {rs:List NR} {q:Option Nat} (h:NB w B v rs) (hg:w.grownBy w' q) (hq:∀ k,q=some k->k<B):NB w' B v rs:=by
 refine ⟨h.own.kept hg ?_,fun r hr=>(h.rows r hr).kept hg ?_,h.apart⟩
 ·cases e:v.ownBlock with
  | none=>exact .inl rfl
  | some k=>exact .inr fun e2=>by have:=hq k e2.symm;have:=(h.own.lt k e).1;omega
 ·cases e:(Value.slice r.loc r.nd.pieces.length r.cap).ownBlock with
  | none=>exact .inl rfl
  | some k=>exact .inr fun e2=>by have:=hq k e2.symm;have:=((h.rows r hr).lt k e).1;omega
theorem NB.below {w w':World} {B:Nat} {v:Value} {rs:List NR} (h:NB w B v rs) (hb:Below w.heap.size w w'):NB w' B v rs:=
 h.grown (q:=none) ⟨hb.os,hb.tape,hb.output,hb.size,fun k hk _=>hb.block k hk⟩ (fun k e=>by cases e)
theorem NB.setBox {w:World} {B:Nat} {v:Value} {rs:List NR} (h:NB w B v rs) (g i:Nat) (x:Value) (hg:g<B):NB (w.setCell ⟨g,i,none⟩ x) B v rs:=
 h.grown (qak w g i x) (fun k e=>by cases e;exact hg)
theorem NB.setOut {w:World} {B:Nat} {v:Value} {rs:List NR} {c:Array Value} {t:TypeId} {fr:Nat × Nat} (h:NB w B v rs) (g i:Nat) (x:Value) (hg:w.heap[g]?=some (.cells c t fr)) (ht:t ≠ 138) (hv:v.ownBlock ≠ some g):NB (w.setCell ⟨g,i,none⟩ x) B v rs:=by
 refine ⟨h.own.kept (qak w g i x) (.inr hv),fun r hr=>(h.rows r hr).kept (qak w g i x) (.inr fun e=>?_),h.apart⟩
 obtain ⟨cur,h2⟩:=qau (h.rows r hr) e
 rw [hg] at h2
 simp at h2
 exact ht h2.2.1
theorem NB.snoc {w w1 w2:World} {B:Nat} {v v':Value} {rs:List NR} {r:NR} (h:NB w B v rs) (hb:Below w.heap.size w w1) (hp:w1.ownsRow B 138 2 (.slice r.loc r.nd.pieces.length r.cap) r.nd.pieces.length (pcs r.nd.pieces))
  (hnew:r.loc ≠ none->∀ s ∈ rs,s.loc ≠ none->s.loc ≠ r.loc) (ho:w2.ownsRow B 87 9 v' (rs.length+1) (ncs rs++qaj r)) (hg:w1.grownBy w2 v.ownBlock):NB w2 B v' (rs++[r]):=by
 have hN:=h.below hb
 have keep:∀ s:NR,w1.ownsRow B 138 2 (.slice s.loc s.nd.pieces.length s.cap) s.nd.pieces.length (pcs s.nd.pieces)->w2.ownsRow B 138 2 (.slice s.loc s.nd.pieces.length s.cap) s.nd.pieces.length (pcs s.nd.pieces):=fun s hr=>by
  refine hr.kept hg ?_
  cases e:(Value.slice s.loc s.nd.pieces.length s.cap).ownBlock with
  | none=>exact .inl rfl
  | some k =>
   refine .inr fun e2=>?_
   obtain ⟨c1,h1⟩:=qau hr e
   obtain ⟨c2,h2⟩:=qau hN.own e2.symm
   rw [h1] at h2
   simp at h2
 refine ⟨?_,fun s hs=>?_,?_⟩
 ·have e:ncs (rs++[r])=ncs rs++qaj r:=by simp [ncs]
  rw [e,List.length_append,List.length_singleton]
  exact ho
 ·rcases List.mem_append.1 hs with q | q
  ·exact keep s (hN.rows s q)
  ·rw [List.mem_singleton.1 q]
   exact keep r hp
 ·refine List.pairwise_append.2 ⟨h.apart,List.pairwise_singleton _ _,fun s hs t ht h1 h2=>?_⟩
  rw [List.mem_singleton.1 ht] at h2 ⊢
  exact hnew h2 s hs h1
theorem qrl {w:World} {B t sz n c:Nat} {a:Option Addr} {L:List Value} (h:w.ownsRow B t sz (.slice a n c) n L) (hn:n ≠ 0):a ≠ none:=by
 obtain ⟨g,cap,cur,e,_⟩:=qei h hn
 simp at e
 rw [e.1]
 simp
theorem NB.fin {w:World} {B:Nat} {v:Value} {rs:List NR} {nx:Int} (h:NB w B v rs):TAns w (.agg #[v,.int .i64 nx]) ⟨nds rs,nx⟩ B w.heap.size:=by
 have hown:=h.own
 rcases hown.2 with ⟨rfl,h0⟩ | ⟨g,cap,cur,rfl,hB,hcur,hn,_⟩
 ·have:rs=[]:=List.eq_nil_of_length_eq_zero h0
  subst this
  exact ⟨none,0,[],rfl,rfl,Nat.le_refl _,.inl rfl⟩
 ·refine ⟨_,cap,rs,rfl,rfl,hn,.inr ⟨g,rfl,?_⟩⟩
  refine ⟨qar h.own,hB,(Array.getElem?_eq_some_iff.1 hcur).1,fun r hr=>?_,?_⟩
  ·by_cases hp:r.nd.pieces=[]
   ·exact .inl (by show pcs r.nd.pieces=[];rw [hp];rfl)
   ·have hr':=h.rows r hr
    obtain ⟨b,cp,c2,e1,q1,q2,q3⟩:=qei hr' (by simpa using hp)
    have e2:r.loc=some ⟨b,0,none⟩:=(by simpa using e1:r.loc=some ⟨b,0,none⟩/\r.cap=cp).1
    refine .inr ⟨b,e2,q1,q2,fun e=>?_,?_⟩
    ·rw [e,hcur] at q3
     simp at q3
    ·rw [e2] at hr'
     exact qar hr'
  ·have ha:=List.pairwise_iff_getElem.1 h.apart
   refine List.pairwise_iff_getElem.2 (fun i j hi hj hij h1 h2=>ha i j hi hj hij ?_ ?_)
   ·exact qrl (h.rows _ (List.getElem_mem hi)) (fun e=>h1 (by show pcs rs[i].nd.pieces=[];rw [List.eq_nil_of_length_eq_zero e];rfl))
   ·exact qrl (h.rows _ (List.getElem_mem hj)) (fun e=>h2 (by show pcs rs[j].nd.pieces=[];rw [List.eq_nil_of_length_eq_zero e];rfl))



theorem spansX_len (s n:Int):(qaw s n).length<=1001:=by
 unfold qaw
 split
 ·rename_i h
  unfold spanL
  rw [List.length_append,List.length_replicate,List.length_singleton]
  have:=Nat.div_le_self (n.toNat - 1) (qbh s)
  omega
 ·exact Nat.zero_le _
def newX:TM:=⟨[⟨1,0,⟨#[]⟩,true,1,0,0,[],0⟩],2⟩
def newR:NR:=⟨⟨1,0,⟨#[]⟩,true,1,0,0,[],0⟩,none,0⟩
theorem specTreeNew (w:World):Calls Tryz.prog 14 #[] w fun e w'=>qoo newX w e w':=by
 go_enter Tryz.func14,Tryz.ntmps14
 go_wp2_with fail
 refine qac (fun W=>WCells W w.heap.size [.slice (some ⟨w.heap.size+1,0,none⟩) 1 1,.int .i64 2]/\WCells W (w.heap.size+1) (qaj newR)/\Below w.heap.size w W) ⟨(qad w #[.slice (some ⟨w.heap.size+1,0,none⟩) 1 1,.int .i64 2] 42).alloc _,?h2,((Below.refl _ _).alloc (Nat.le_refl _) _).alloc (by simp) _⟩ ?_
 case h2 =>
  have:=qad (w.alloc (.cells #[.slice (some ⟨w.heap.size+1,0,none⟩) 1 1,.int .i64 2] 42)) (qaj newR).toArray 87
  rw [show (w.alloc (.cells #[.slice (some ⟨w.heap.size+1,0,none⟩) 1 1,.int .i64 2] 42)).heap.size=w.heap.size+1 by simp] at this
  exact this
 rintro W ⟨h1,h2,hb⟩
 have x0:=(h1.2 0 _ rfl).1
 have x1:=(h1.2 1 _ rfl).1
 refine bodyPost_ret (v:=.agg #[.slice (some ⟨w.heap.size+1,0,none⟩) 1 1,.int .i64 2]) (by simp [results,Tryz.results14,go_sem,x0,x1]) rfl ⟨_,rfl,⟨_,1,[newR],rfl,rfl,Nat.le_refl _,.inr ⟨_,rfl,?_⟩⟩,hb⟩
 exact ⟨by simpa [NK.cells] using h2,by omega,h2.1,fun r hr=>.inl (by rw [List.mem_singleton.1 hr];rfl),by simp⟩
structure Str where
 p:World->Prop
 lo:Nat
 hi:Nat
def Str.Loc (s:Str):Prop:=∀ W W' l h,s.p W->Turned W W' l h->(s.hi<=l\/h<=s.lo)->s.p W'
abbrev bxS (b:Nat) (X:List Value):Str:=⟨fun W=>WCells W b X,b,b+1⟩
abbrev rwS (va:Option Addr) (X:List Value) (lo hi:Nat):Str:=⟨fun W=>FRw W va X lo hi,lo,hi⟩
theorem bxS.loc (b:Nat) (X:List Value):(bxS b X).Loc:=fun _ _ _ _ h t hd=>h.turned t (by rcases hd with h | h <;> (dsimp only [bxS] at h;omega))
theorem rwS.loc (va:Option Addr) (X:List Value) (lo hi:Nat):(rwS va X lo hi).Loc:=fun _ _ l h hp t hd=>by
 rcases hp with e | ⟨g,h1,h2,h3,h4⟩
 ·exact .inl e
 ·exact .inr ⟨g,h1,h2,h3,h4.turned t (by rcases hd with e | e <;> (dsimp only [rwS] at e;omega))⟩
structure SL (w0 W:World) (S:List Str):Prop where
 bel:Below w0.heap.size w0 W
 is:∀ s ∈ S,s.p W/\s.Loc/\w0.heap.size<=s.lo/\s.hi<=W.heap.size
 apart:S.Pairwise fun s t=>s.hi<=t.lo\/t.hi<=s.lo
section
variable {w0 W W':World} {S:List Str} {s t:Str}
theorem SL.start (w:World):SL w w []:=⟨Below.refl _ _,fun _ h=>(by cases h),.nil⟩
theorem SL.below (h:SL w0 W S) (hb:Below W.heap.size W W'):SL w0 W' S:=
 ⟨h.bel.trans (hb.mono h.bel.size),fun s hs=>⟨(h.is s hs).2.1 W W' W'.heap.size W'.heap.size (h.is s hs).1 (Turned.of_below hb _ _) (.inl (Nat.le_trans (h.is s hs).2.2.2 hb.size)),(h.is s hs).2.1,(h.is s hs).2.2.1,Nat.le_trans (h.is s hs).2.2.2 hb.size⟩,h.apart⟩
theorem SL.drew (h:SL w0 W S):SL w0 W.drew S:=h.below (Below.drew (Below.refl _ _))
theorem SL.add (h:SL w0 W S) (hb:Below W.heap.size W W') (hp:s.p W') (hl:s.Loc) (h1:W.heap.size<=s.lo) (h2:s.hi<=W'.heap.size):SL w0 W' (s::S):=by
 have k:=h.below hb
 refine ⟨k.bel,fun x hx=>?_,List.pairwise_cons.2 ⟨fun x hx=>.inr (Nat.le_trans (h.is x hx).2.2.2 h1),h.apart⟩⟩
 rcases List.mem_cons.1 hx with rfl | hx
 ·exact ⟨hp,hl,Nat.le_trans h.bel.size h1,h2⟩
 ·exact k.is x hx
theorem SL.add2 (h:SL w0 W S) (hb:Below W.heap.size W W') (hp:s.p W') (hl:s.Loc) (h1:W.heap.size<=s.lo) (h2:s.hi<=W'.heap.size) (kp:t.p W') (kl:t.Loc) (k1:W.heap.size<=t.lo) (k2:t.hi<=W'.heap.size) (ha:s.hi<=t.lo\/t.hi<=s.lo):SL w0 W' (s::t::S):=by
 have k:=h.add hb kp kl k1 k2
 refine ⟨k.bel,fun x hx=>?_,List.pairwise_cons.2 ⟨fun x hx=>?_,k.apart⟩⟩
 ·rcases List.mem_cons.1 hx with rfl | hx
  ·exact ⟨hp,hl,Nat.le_trans h.bel.size h1,h2⟩
  ·exact k.is x hx
 ·rcases List.mem_cons.1 hx with rfl | hx
  ·exact ha
  ·exact .inr (Nat.le_trans (h.is x hx).2.2.2 h1)
theorem SL.new (h:SL w0 W S) (cs:Array Value) (ty:TypeId):SL w0 (W.alloc (.cells cs ty)) (bxS W.heap.size cs.toList::S):=
 h.add ((Below.refl _ _).alloc (Nat.le_refl _) _) (qad W cs ty) (bxS.loc _ _) (Nat.le_refl _) (by simp)
theorem SL.at (h:SL w0 W S) (i:Nat) (hs:S[i]?=some s):s.p W:=(h.is _ (List.mem_of_getElem? hs)).1
theorem SL.bx (h:SL w0 W S) (i:Nat) {b:Nat} {X:List Value} (hs:S[i]?=some (bxS b X)) (j:Nat) (v:Value) (hv:X[j]?=some v):W.cell? ⟨b,j,none⟩=some v/\W.frozen? ⟨b,j,none⟩=false:=(show WCells W b X from h.at i hs).2 j v hv
theorem SL.turn (h:SL w0 W S) (i:Nat) (hs:S[i]?=some s) (tu:Turned W W' s.lo s.hi) {q:World->Prop} (hq:q W') (hl:Str.Loc ⟨q,s.lo,s.hi⟩):SL w0 W' (S.set i ⟨q,s.lo,s.hi⟩):=by
 have hm:=h.is s (List.mem_of_getElem? hs)
 obtain ⟨hi,hie⟩:=List.getElem?_eq_some_iff.1 hs
 have hap:∀ j (hj:j<S.length),j ≠ i->S[j].hi<=s.lo\/s.hi<=S[j].lo:=fun j hj hne=>by
  have:=List.pairwise_iff_getElem.1 h.apart
  rcases Nat.lt_or_gt_of_ne hne with e | e
  ·have:=this j i hj hi e;rw [hie] at this;exact this
  ·have:=this i j hi hj e;rw [hie] at this;exact this.symm
 refine ⟨⟨h.bel.os ▸ tu.base.os ▸ rfl,?_,?_,?_,?_⟩,fun x hx=>?_,?_⟩
 ·exact tu.base.tape.trans h.bel.tape
 ·exact tu.base.output.trans h.bel.output
 ·exact Nat.le_trans h.bel.size tu.base.size
 ·intro k hk
  exact (tu.block k (Nat.lt_of_lt_of_le hk h.bel.size) (by omega)).trans (h.bel.block k hk)
 ·obtain ⟨j,hj,rfl⟩:=List.getElem_of_mem hx
  rw [List.length_set] at hj
  by_cases e:j=i
  ·subst e
   rw [List.getElem_set_self]
   exact ⟨hq,hl,hm.2.2.1,Nat.le_trans hm.2.2.2 tu.base.size⟩
  ·rw [List.getElem_set_ne (Ne.symm e)]
   have k:=h.is _ (List.getElem_mem hj)
   exact ⟨k.2.1 W W' _ _ k.1 tu (hap j hj e),k.2.1,k.2.2.1,Nat.le_trans k.2.2.2 tu.base.size⟩
 ·rw [List.pairwise_iff_getElem] at *
  intro a b ha hb hab
  rw [List.length_set] at ha hb
  have:=List.pairwise_iff_getElem.1 h.apart a b ha hb hab
  rw [List.getElem_set,List.getElem_set]
  split <;> split
  ·omega
  ·rename_i e1 e2;subst e1;rw [hie] at this;exact this
  ·rename_i e1 e2;subst e2;rw [hie] at this;exact this
  ·exact this
theorem SL.put (h:SL w0 W S) (i:Nat) {b:Nat} {X:List Value} (hs:S[i]?=some (bxS b X)) (j:Nat) (v:Value) (hj:j<X.length):SL w0 (W.setCell ⟨b,j,none⟩ v) (S.set i (bxS b (X.set j v))):=
 h.turn i hs (Turned.of_grown (qak W b j v) (Nat.le_refl _) (Nat.lt_succ_self _)) ((show WCells W b X from h.at i hs).set j v hj) (bxS.loc _ _)
theorem SL.swap (h:SL w0 W (s::t::S)):SL w0 W (t::s::S):=by
 refine ⟨h.bel,fun x hx=>h.is x (by simp only [List.mem_cons] at hx ⊢;rcases hx with h | h | h <;> simp [h]),?_⟩
 have h1:=List.pairwise_cons.1 h.apart
 have h2:=List.pairwise_cons.1 h1.2
 exact List.pairwise_cons.2 ⟨fun x hx=>by
  rcases List.mem_cons.1 hx with rfl | hx
  ·exact (h1.1 t (List.mem_cons_self ..)).symm
  ·exact h2.1 x hx,List.pairwise_cons.2 ⟨fun x hx=>h1.1 x (List.mem_cons_of_mem _ hx),h2.2⟩⟩
theorem SL.grown (h:SL w0 W S) {row:Option Nat} (hg:W.grownBy W' row) (hr:∀ q,row=some q->w0.heap.size<=q/\∀ s ∈ S,s.hi<=q\/q<s.lo):SL w0 W' S:=by
 cases row with
 | none=>exact h.below ⟨hg.os,hg.tape,hg.output,hg.size,fun k hk=>hg.block k hk (by simp)⟩
 | some q =>
  have t:=Turned.of_grown hg (Nat.le_refl q) (Nat.lt_succ_self q)
  refine ⟨h.bel.grown hg h.bel.size fun k e=>by cases e;exact (hr q rfl).1,fun s hs=>⟨(h.is s hs).2.1 W W' _ _ (h.is s hs).1 t (by rcases (hr q rfl).2 s hs with e | e <;> omega),(h.is s hs).2.1,(h.is s hs).2.2.1,Nat.le_trans (h.is s hs).2.2.2 hg.size⟩,h.apart⟩
end
theorem eqPiece_same (p:PM) (w:World):Calls Tryz.prog 170 #[pv p,pv p] w fun e w'=>e = .returned (.bool true)/\Below w.heap.size w w':=by
 go_enter Tryz.func170,Tryz.ntmps170
 go_wp2_with fail
 go_ret
 exact ⟨rfl,((Below.refl _ _).alloc (Nat.le_refl _) _).alloc (by simp) _⟩
theorem eqPieceS_same (a b:Option Addr) (ps:List PM) (ca cb:Nat) (w:World) (lo hi lo' hi':Nat) (ha:RRow w a (pcs ps) lo hi) (hb:RRow w b (pcs ps) lo' hi') (hl:ps.length<=1048576) :
  Calls Tryz.prog 139 #[.slice a ps.length ca,.slice b ps.length cb] w fun e w'=>e = .returned (.bool true)/\Below w.heap.size w w':=by
 have HA:=Sh.mk ha
 have HB:=Sh.mk hb
 clear ha hb
 go_enter Tryz.func139,Tryz.ntmps139
 go_wp2_with fail
 go_loopw [5] (fun i wr=>∃ (k:Nat),i = .int .i64 k/\k<=ps.length/\Sh (Below w.heap.size w wr)) (fun i _=>ps.length - (intOf i).toNat)
 case atStart=>exact ⟨0,rfl,Nat.zero_le _,⟨Below.refl _ _⟩⟩
 case round =>
  obtain ⟨k,rfl,hk,hbl⟩:=hrel
  by_cases hlt:k<ps.length
  ·obtain ⟨b1,o1,rfl,l1,hc1⟩:=qon (HA.1.below hbl.1) (by omega)
   obtain ⟨b2,o2,rfl,l2,hc2⟩:=qon (HB.1.below hbl.1) (by omega)
   obtain ⟨d0,d1⟩:=hc1 k hlt
   obtain ⟨e0,e1⟩:=hc2 k hlt
   generalize ps[k]=f at *
   have k0:(0:Int)<=(k:Int):=by omega
   have k1:(k:Int)<(ps.length:Int):=by omega
   clear hc1 hc2
   go_wp2_with fail
   go_region_held3 (fun w'=>w'.cell? ⟨b1,o1+k*2,none⟩=some (.int .i64 f.group)/\w'.cell? ⟨b1,o1+k*2+1,none⟩=some (.int .i64 f.len)/\w'.cell? ⟨b2,o2+k*2,none⟩=some (.int .i64 f.group)/\w'.cell? ⟨b2,o2+k*2+1,none⟩=some (.int .i64 f.len))
    (first | go_keep | (refine ⟨?_,?_,?_,?_⟩ <;> first | (rw [hb2.cell (by exact l1)];simp [*]) | (rw [hb2.cell (by exact l2)];simp [*])))
    ((go_at_call 170;refine (eqPiece_same f _).mono ?_;rintro e w2 ⟨rfl,hb2⟩))
   all_goals go_wp2_with fail
   all_goals
    have hb3:Below w.heap.size w w2:=hbl.1.trans ((Below.drew (Below.refl _ _)).trans (hb2.mono hbl.1.size))
    exact ⟨⟨k+1,by go_num,by omega,⟨hb3⟩⟩,by simp [intOf];omega⟩
  ·have hlt':¬ (k:Int)<(ps.length:Int):=by omega
   go_wp2_with fail
   go_ret
   exact ⟨rfl,hbl.1⟩
theorem qop (x:ByteArray):(x.toList != x.toList)=false:=by simp
theorem eqInode_same (r s:NR) (w:World) (lo hi lo' hi':Nat) (hn:r.nd=s.nd) (ha:RRow w r.loc (pcs r.nd.pieces) lo hi) (hb:RRow w s.loc (pcs s.nd.pieces) lo' hi') (hl:r.nd.pieces.length<=1048576) :
  Calls Tryz.prog 98 #[nv r,nv s] w fun e w'=>e = .returned (.bool true)/\Below w.heap.size w w':=by
 obtain ⟨n,loc,cap⟩:=r
 obtain ⟨n',loc',cap'⟩:=s
 dsimp only at hn
 subst hn
 obtain ⟨id,parent,name,dir,schema,quota,len,pieces,writer⟩:=n
 dsimp only [nv] at *
 have HP:=Sh.mk (fun W (hW:Below w.heap.size w W)=>eqPieceS_same loc loc' pieces cap cap' W lo hi lo' hi' (ha.below hW) (hb.below hW) hl)
 generalize pieces.length=np at *
 have HB0:=Sh.mk (show Below w.heap.size w ((w.alloc (.cells #[.int .i64 id,.int .i64 parent,.string name,.bool dir,.int .i64 schema,.int .i64 quota,.int .i64 len,.slice loc np cap,.int .i64 writer] 87)).alloc (.cells #[.int .i64 id,.int .i64 parent,.string name,.bool dir,.int .i64 schema,.int .i64 quota,.int .i64 len,.slice loc' np cap',.int .i64 writer] 87)) from ((Below.refl _ _).alloc (Nat.le_refl _) _).alloc (by simp) _)
 have hst:=qop name
 have hdd:(dir != dir)=false:=by cases dir <;> rfl
 have HW1:=Sh.mk (qad w #[.int .i64 id,.int .i64 parent,.string name,.bool dir,.int .i64 schema,.int .i64 quota,.int .i64 len,.slice loc np cap,.int .i64 writer] 87)
 have HW2:=Sh.mk (qad (w.alloc (.cells #[.int .i64 id,.int .i64 parent,.string name,.bool dir,.int .i64 schema,.int .i64 quota,.int .i64 len,.slice loc np cap,.int .i64 writer] 87)) #[.int .i64 id,.int .i64 parent,.string name,.bool dir,.int .i64 schema,.int .i64 quota,.int .i64 len,.slice loc' np cap',.int .i64 writer] 87)
 have hz:(w.alloc (.cells #[.int .i64 id,.int .i64 parent,.string name,.bool dir,.int .i64 schema,.int .i64 quota,.int .i64 len,.slice loc np cap,.int .i64 writer] 87)).heap.size=w.heap.size+1:=by simp
 rw [hz] at HW2
 replace HW1:=Sh.mk (HW1.1.alloc (.cells #[.int .i64 id,.int .i64 parent,.string name,.bool dir,.int .i64 schema,.int .i64 quota,.int .i64 len,.slice loc' np cap',.int .i64 writer] 87))
 clear ha hb hl hz
 go_enter Tryz.func98,Tryz.ntmps98
 go_wp2_with fail
 refine (HP.1 _ HB0.1).mono ?_
 rintro e w2 ⟨rfl,hb2⟩
 have a8:=((HW1.1.grow hb2).2 8 _ rfl).1
 have c8:=((HW2.1.grow hb2).2 8 _ rfl).1
 have HB2:=Sh.mk (HB0.1.trans (hb2.mono HB0.1.size))
 clear hb2 HW1 HW2 HB0 HP
 go_wp2_with fail
 go_ret
 exact ⟨rfl,HB2.1⟩
theorem eqInodeS_same (a b:Option Addr) (rs ts:List NR) (ca cb:Nat) (w:World) (lo hi lo' hi':Nat) (hn:nds rs=nds ts) (ha:TR w a rs lo hi) (hb:TR w b ts lo' hi') (hl:rs.length<=1048576) (hp:∀ r ∈ rs,r.nd.pieces.length<=1048576) :
  Calls Tryz.prog 56 #[.slice a rs.length ca,.slice b ts.length cb] w fun e w'=>e = .returned (.bool true)/\Below w.heap.size w w':=by
 have hlen:ts.length=rs.length:=by rw [<-qaf,<-hn,qaf]
 have HA:=Sh.mk (And.intro ha hp)
 have HB:=Sh.mk (And.intro hb hn)
 obtain ⟨n,hnn⟩:∃ n,n=rs.length:=⟨_,rfl⟩
 have HN:=Sh.mk (And.intro hnn hlen)
 rw [hlen,<-hnn]
 rw [<-hnn] at hl
 have hne:((n:Int) != (n:Int))=false:=by simp
 clear ha hb hn hp hlen hnn
 go_enter Tryz.func56,Tryz.ntmps56
 go_wp2_with fail
 go_loopw [5] (fun i wr=>∃ (k:Nat),i = .int .i64 k/\k<=n/\Sh (Below w.heap.size w wr)) (fun i _=>n - (intOf i).toNat)
 case atStart=>exact ⟨0,rfl,Nat.zero_le _,⟨Below.refl _ _⟩⟩
 case round =>
  obtain ⟨k,rfl,hk,hbl⟩:=hrel
  by_cases hlt:k<n
  ·have hlr:k<rs.length:=by have:=HN.1.1;omega
   have hlt2:k<ts.length:=by have:=HN.1;omega
   obtain ⟨b1,o1,rfl,l1,hc1⟩:=TR.nat (HA.1.1.below hbl.1) (by omega)
   obtain ⟨b2,o2,rfl,l2,hc2⟩:=TR.nat (HB.1.1.below hbl.1) (by omega)
   obtain ⟨d0,d1,d2,d3,d4,d5,d6,d7,d8⟩:=hc1 k hlr
   obtain ⟨e0,e1,e2,e3,e4,e5,e6,e7,e8⟩:=hc2 k hlt2
   have heq:rs[k].nd=ts[k].nd:=by
    have h1:(nds rs)[k]'(by rw [qaf];exact hlr)=rs[k].nd:=by simp [nds]
    have h2:(nds ts)[k]'(by rw [qaf];exact hlt2)=ts[k].nd:=by simp [nds]
    rw [<-h1,<-h2]
    simp only [HB.1.2]
   have HQ:=Sh.mk (fun W (hW:Below wr.heap.size wr W)=>eqInode_same rs[k] ts[k] W lo hi lo' hi' heq (((HA.1.1.below hbl.1).2 rs[k] (List.getElem_mem hlr)).below hW) (((HB.1.1.below hbl.1).2 ts[k] (List.getElem_mem hlt2)).below hW) (HA.1.2 rs[k] (List.getElem_mem hlr)))
   generalize rs[k]=r at *
   generalize ts[k]=s at *
   have k0:(0:Int)<=(k:Int):=by omega
   have k1:(k:Int)<(n:Int):=by omega
   clear hc1 hc2 heq
   go_wp2_with fail
   go_region_held3 (fun w'=>w'.cell? ⟨b1,o1+k*9,none⟩=some (.int .i64 r.nd.id)/\w'.cell? ⟨b1,o1+k*9+1,none⟩=some (.int .i64 r.nd.parent)/\w'.cell? ⟨b1,o1+k*9+2,none⟩=some (.string r.nd.name)/\w'.cell? ⟨b1,o1+k*9+3,none⟩=some (.bool r.nd.dir)/\w'.cell? ⟨b1,o1+k*9+4,none⟩=some (.int .i64 r.nd.schema)/\w'.cell? ⟨b1,o1+k*9+5,none⟩=some (.int .i64 r.nd.quota)/\w'.cell? ⟨b1,o1+k*9+6,none⟩=some (.int .i64 r.nd.len)/\w'.cell? ⟨b1,o1+k*9+7,none⟩=some (.slice r.loc r.nd.pieces.length r.cap)/\w'.cell? ⟨b1,o1+k*9+8,none⟩=some (.int .i64 r.nd.writer)/\w'.cell? ⟨b2,o2+k*9,none⟩=some (.int .i64 s.nd.id)/\w'.cell? ⟨b2,o2+k*9+1,none⟩=some (.int .i64 s.nd.parent)/\w'.cell? ⟨b2,o2+k*9+2,none⟩=some (.string s.nd.name)/\w'.cell? ⟨b2,o2+k*9+3,none⟩=some (.bool s.nd.dir)/\w'.cell? ⟨b2,o2+k*9+4,none⟩=some (.int .i64 s.nd.schema)/\w'.cell? ⟨b2,o2+k*9+5,none⟩=some (.int .i64 s.nd.quota)/\w'.cell? ⟨b2,o2+k*9+6,none⟩=some (.int .i64 s.nd.len)/\w'.cell? ⟨b2,o2+k*9+7,none⟩=some (.slice s.loc s.nd.pieces.length s.cap)/\w'.cell? ⟨b2,o2+k*9+8,none⟩=some (.int .i64 s.nd.writer))
    (first | go_keep | (refine ⟨?_,?_,?_,?_,?_,?_,?_,?_,?_,?_,?_,?_,?_,?_,?_,?_,?_,?_⟩ <;> first | (rw [hb2.cell (by exact l1)];simp [*]) | (rw [hb2.cell (by exact l2)];simp [*])))
    ((go_at_call 98;refine (HQ.1 _ (by first | exact Below.refl _ _ | exact Below.drew (Below.refl _ _))).mono ?_;rintro e w2 ⟨rfl,hb2⟩))
   all_goals go_wp2_with fail
   all_goals
    have hb3:Below w.heap.size w w2:=hbl.1.trans ((Below.drew (Below.refl _ _)).trans (hb2.mono hbl.1.size))
    exact ⟨⟨k+1,by go_num,by omega,⟨hb3⟩⟩,by simp [intOf];omega⟩
  ·have hlt':¬ (k:Int)<(n:Int):=by omega
   go_wp2_with fail
   go_ret
   exact ⟨rfl,hbl.1⟩
theorem eqTree_val {w:World} {v u:Value} {T:TM} {lo hi lo' hi':Nat} (h:TSee w v T lo hi) (k:TSee w u T lo' hi') (hf:NFit T):Calls Tryz.prog 21 #[v,u] w fun e w'=>e = .returned (.bool true)/\Below w.heap.size w w':=by
 obtain ⟨a,cap,rs,rfl,hr,hm⟩:=h
 obtain ⟨b,cap',ts,rfl,hr',hm'⟩:=k
 have hl:rs.length<=1048576:=by
  have:rs.length=T.nodes.length:=by rw [<-hr,qaf]
  unfold NFit at hf;omega
 have hp:∀ r ∈ rs,r.nd.pieces.length<=1048576:=fun r hx=>by
  have:=qeo (ns:=T.nodes) (n:=r.nd) (by rw [<-hr];exact List.mem_map.2 ⟨r,hx,rfl⟩)
  unfold NFit at hf
  omega
 have HS:=Sh.mk (fun W (hW:Below w.heap.size w W)=>eqInodeS_same a b rs ts cap cap' W lo hi lo' hi' (hr.trans hr'.symm) (hm.below hW) (hm'.below hW) hl hp)
 generalize T.next=nx at *
 generalize rs.length=n at *
 generalize ts.length=m at *
 have HB0:=Sh.mk (show Below w.heap.size w ((w.alloc (.cells #[.slice a n cap,.int .i64 nx] 42)).alloc (.cells #[.slice b m cap',.int .i64 nx] 42)) from ((Below.refl _ _).alloc (Nat.le_refl _) _).alloc (by simp) _)
 have HW1:=Sh.mk ((qad w #[.slice a n cap,.int .i64 nx] 42).alloc (.cells #[.slice b m cap',.int .i64 nx] 42))
 have HW2:=Sh.mk (qad (w.alloc (.cells #[.slice a n cap,.int .i64 nx] 42)) #[.slice b m cap',.int .i64 nx] 42)
 have hz:(w.alloc (.cells #[.slice a n cap,.int .i64 nx] 42)).heap.size=w.heap.size+1:=by simp
 rw [hz] at HW2
 clear hz hm hm' hr hr' hl hp hf
 go_enter Tryz.func21,Tryz.ntmps21
 go_wp2_with fail
 refine (HS.1 _ HB0.1).mono ?_
 rintro e w2 ⟨rfl,hb2⟩
 have a1:=((HW1.1.grow hb2).2 1 _ rfl).1
 have c1:=((HW2.1.grow hb2).2 1 _ rfl).1
 have HB2:=Sh.mk (HB0.1.trans (hb2.mono HB0.1.size))
 clear hb2 HW1 HW2 HB0 HS
 go_wp2_with fail
 go_ret
 exact ⟨rfl,HB2.1⟩
def qby (k n:Nat):List PM:=(List.range n).map fun i=>⟨((k+2*i:Nat):Int),((k+2*i+1:Nat):Int)⟩
theorem qck (k n:Nat):(qby k n).length=n:=by simp [qby]
def qdu (k:Nat):Bool:=decide (k % 3=0)
def markN (k np:Nat):NM:=⟨(k:Int),((k+1:Nat):Int),mt (k+2),qdu (k+3),((k+4:Nat):Int),((k+5:Nat):Int),((k+6:Nat):Int),qby (k+7) np,((k+7+2*np:Nat):Int)⟩
def qci (k:Nat):List NR->List NR
 | []=>[]
 | r::rs=>⟨markN k r.nd.pieces.length,r.loc,r.cap⟩::qci (k+8+2*r.nd.pieces.length) rs
def markK (k:Nat):List NM->Nat
 | []=>k
 | n::ns=>markK (k+8+2*n.pieces.length) ns
theorem qhs (k:Nat) (rs:List NR):(qci k rs).length=rs.length:=by
 induction rs generalizing k with
 | nil=>rfl
 | cons r rs ih=>simp only [qci,List.length_cons,ih]
theorem qlq (k:Nat) (ns:List NM) (n:NM):markK k (ns++[n])=markK k ns+8+2*n.pieces.length:=by
 induction ns generalizing k with
 | nil=>rfl
 | cons x ns ih=>simp only [List.cons_append,markK,ih]
theorem markRs_snoc (k:Nat) (rs:List NR) (r:NR):qci k (rs++[r])=qci k rs++[⟨markN (markK k (nds rs)) r.nd.pieces.length,r.loc,r.cap⟩]:=by
 induction rs generalizing k with
 | nil=>rfl
 | cons x rs ih=>simp only [List.cons_append,qci,ih,nds,List.map_cons,markK]
theorem qfv (k:Nat) (ns:List NM):k<=markK k ns/\markK k ns<=k+8*ns.length+2*nsum ns:=by
 induction ns generalizing k with
 | nil=>simp [markK,nsum]
 | cons n ns ih=>have:=ih (k+8+2*n.pieces.length);simp only [markK,nsum,List.length_cons];omega
theorem qoq (k:Nat) (ns:List NM):k+ns.length<=markK k ns:=by
 induction ns generalizing k with
 | nil=>simp [markK]
 | cons n ns ih=>simp only [List.length_cons,markK];have:=ih (k+8+2*n.pieces.length);omega
theorem qlr (k:Nat) (ns:List NM) (i:Nat):markK k (ns.take i)<=markK k ns:=by
 induction ns generalizing k i with
 | nil=>simp
 | cons n ns ih =>
  cases i with
  | zero=>simp only [List.take_zero];exact (qfv k _).1
  | succ i=>simp only [List.take_succ_cons,markK];exact ih _ _
theorem qsi (ts:List NR) (j:Nat) (h:j<ts.length) (i:Nat) (hi:i<9):(ncs ts)[j*9+i]?=(qaj ts[j])[i]?:=flat_get qao ts j h i hi
theorem ncs_set1 (ts:List NR) (i:Nat) (hi:i<ts.length) (f:Nat) (hf:f<9) (r:NR) (v:Value) (h1:(qaj r)[f]?=some v) (h2:∀ q,q<9->q ≠ f->(qaj r)[q]?=(qaj ts[i])[q]?):(ncs ts).set (i*9+f) v=ncs (ts.set i r):=by
 have hlen:(ncs ts).length=ts.length*9:=qdt ts
 apply List.ext_getElem?
 intro n
 by_cases hn:n<ts.length*9
 ·have hs:=qqq qao ts i hi r n hn
  show _=((ts.set i r).flatMap qaj)[n]?
  rw [hs]
  have hm:=Nat.mod_lt n (show 0<9 by decide)
  have he:n=n / 9*9+n % 9:=by omega
  by_cases e:n=i*9+f
  ·have e1:n / 9=i:=by omega
   have e2:n % 9=f:=by omega
   rw [if_pos e1,e2,h1,<-e,List.getElem?_set_self (by rw [hlen];exact hn)]
  ·rw [List.getElem?_set_ne (by omega)]
   by_cases e1:n / 9=i
   ·rw [if_pos e1,h2 _ hm (by omega)]
    have:=qsi ts i hi (n % 9) hm
    rw [<-this]
    congr 1
    omega
   ·rw [if_neg e1];rfl
 ·rw [List.getElem?_eq_none (by rw [List.length_set,hlen];omega),List.getElem?_eq_none (by rw [qdt,List.length_set];omega)]
theorem qor {rs:List NR} (h:rs.Pairwise fun r s=>NKind.inn r ≠ []->NKind.inn s ≠ []->NKind.loc r ≠ NKind.loc s) (j:Nat) (hj:j<rs.length) (r:NR) (hi:pcs r.nd.pieces ≠ []->pcs rs[j].nd.pieces ≠ []) (hl:r.loc=rs[j].loc):(rs.set j r).Pairwise fun r s=>NKind.inn r ≠ []->NKind.inn s ≠ []->NKind.loc r ≠ NKind.loc s:=by
 have ha:=List.pairwise_iff_getElem.1 h
 refine List.pairwise_iff_getElem.2 (fun a b ha' hb' hab h1 h2=>?_)
 rw [List.length_set] at ha' hb'
 rw [List.getElem_set] at h1 ⊢
 rw [List.getElem_set] at h2 ⊢
 by_cases ea:j=a
 ·subst ea
  rw [if_pos rfl] at h1 ⊢
  rw [if_neg (by omega)] at h2 ⊢
  show r.loc ≠ _
  rw [hl]
  exact ha j b ha' hb' hab (hi h1) h2
 ·rw [if_neg ea] at h1 ⊢
  by_cases eb:j=b
  ·subst eb
   rw [if_pos rfl] at h2 ⊢
   show _ ≠ r.loc
   rw [hl]
   exact ha a j ha' hb' hab h1 (hi h2)
  ·rw [if_neg eb] at h2 ⊢
   exact ha a b ha' hb' hab h1 h2
theorem TW.cell {w:World} {g:Nat} {ts:List NR} {lo hi:Nat} (h:TW w g ts lo hi) (i:Nat) (hi':i<ts.length) (f:Nat) (hf:f<9) (r:NR) (v:Value) (h1:(qaj r)[f]?=some v) (h2:∀ q,q<9->q ≠ f->(qaj r)[q]?=(qaj ts[i])[q]?)
  (hin:r.nd.pieces=ts[i].nd.pieces) (hloc:r.loc=ts[i].loc):TW (w.setCell ⟨g,i*9+f,none⟩ v) g (ts.set i r) lo hi:=by
 have hout:=h.1.set (i*9+f) v (by rw [NKind.cells_len];show i*9+f<ts.length*9;omega)
 have e:(NKind.cells ts).set (i*9+f) v=NKind.cells (ts.set i r):=ncs_set1 ts i hi' f hf r v h1 h2
 rw [e] at hout
 refine ⟨hout,h.glo,h.ghi,fun s hs=>?_,qor h.apart i hi' r (fun q=>by rw [<-hin];exact q) hloc⟩
 have key:∀ s ∈ ts,NKind.inn s=[]\/∃ b,NKind.loc s=some ⟨b,0,none⟩/\lo<=b/\b<hi/\b ≠ g/\WCells (w.setCell ⟨g,i*9+f,none⟩ v) b (NKind.inn s):=fun s hs=>by
  rcases h.rows s hs with q | ⟨b,e,q1,q2,q3,q4⟩
  ·exact .inl q
  ·exact .inr ⟨b,e,q1,q2,q3,q4.other _ _ q3⟩
 rcases List.mem_or_eq_of_mem_set hs with q | q
 ·exact key s q
 ·subst q
  have:=key ts[i] (List.getElem_mem hi')
  show pcs s.nd.pieces=[]\/∃ b,s.loc=_/\_/\_/\_/\WCells _ b (pcs s.nd.pieces)
  rw [hin,hloc]
  exact this
theorem TW.cell' {w:World} {g:Nat} {ts:List NR} {lo hi:Nat} (h:TW w g ts lo hi) (i:Nat) (hi':i<ts.length) (r0:NR) (hat:ts[i]=r0) (f:Nat) (hf:f<9) (r:NR) (v:Value) (h1:(qaj r)[f]?=some v) (h2:∀ q,q<9->q ≠ f->(qaj r)[q]?=(qaj r0)[q]?)
  (hin:r.nd.pieces=r0.nd.pieces) (hloc:r.loc=r0.loc):TW (w.setCell ⟨g,i*9+f,none⟩ v) g (ts.set i r) lo hi:=by
 subst hat
 exact h.cell i hi' f hf r v h1 h2 hin hloc
theorem TW.pieces {w w2:World} {g:Nat} {ts:List NR} {lo hi:Nat} (h:TW w g ts lo hi) (i:Nat) (hi':i<ts.length) (b:Nat) (hb:ts[i].loc=some ⟨b,0,none⟩) (hne:ts[i].nd.pieces ≠ []) (r:NR) (hc:qaj r=qaj ts[i]) (hloc:r.loc=ts[i].loc)
  (hw:WCells w2 b (pcs r.nd.pieces)) (hg:w.grownBy w2 (some b)):TW w2 g (ts.set i r) lo hi:=by
 obtain ⟨b',e',p1,p2,p3,p4⟩:∃ b,ts[i].loc=some ⟨b,0,none⟩/\lo<=b/\b<hi/\b ≠ g/\WCells w b (pcs ts[i].nd.pieces):=by
  rcases h.rows ts[i] (List.getElem_mem hi') with q | q
  ·exact absurd q (qra hne)
  ·exact q
 have eb:b'=b:=congrArg Addr.block (Option.some.inj (e'.symm.trans hb))
 subst eb
 have hcs:NKind.cells (ts.set i r)=NKind.cells ts:=by
  show (ts.set i r).flatMap qaj=ts.flatMap qaj
  apply List.ext_getElem?
  intro n
  by_cases hn:n<ts.length*9
  ·rw [qqq qao ts i hi' r n hn]
   split
   ·rename_i e
    rw [hc]
    have:=qsi ts i hi' (n % 9) (Nat.mod_lt n (by decide))
    rw [<-this]
    show (ncs ts)[_]?=(ncs ts)[_]?
    congr 1
    omega
   ·rfl
  ·rw [List.getElem?_eq_none (by have:=qco qao (ts.set i r);rw [List.length_set] at this;omega),List.getElem?_eq_none (by have:=qco qao ts;omega)]
 refine ⟨by rw [hcs];exact h.1.apart hg (Ne.symm p3),h.glo,h.ghi,fun s hs=>?_,qor h.apart i hi' r (fun _=>qra hne) hloc⟩
 obtain ⟨j,hj,rfl⟩:=List.mem_iff_getElem.1 hs
 rw [List.length_set] at hj
 rw [List.getElem_set]
 by_cases e:i=j
 ·rw [if_pos e]
  exact .inr ⟨b',by show r.loc=_;rw [hloc,hb],p1,p2,p3,hw⟩
 ·rw [if_neg e]
  rcases h.rows ts[j] (List.getElem_mem hj) with q | ⟨c,e2,q1,q2,q3,q4⟩
  ·exact .inl q
  ·by_cases hq:NKind.inn ts[j]=[]
   ·exact .inl hq
   ·have hap:ts[i].loc ≠ ts[j].loc:=by
     have ha:=List.pairwise_iff_getElem.1 h.apart
     by_cases hij:i<j
     ·exact ha i j hi' hj hij (qra hne) hq
     ·exact (ha j i hj hi' (by omega) hq (qra hne)).symm
    have hcb:c ≠ b':=fun q=>hap (by rw [hb,<-q];exact e2.symm)
    exact .inr ⟨c,e2,q1,q2,q3,q4.apart hg hcb⟩
theorem qff (a:Option Addr) (k ca:Nat) (w:World):Calls Tryz.prog 100 #[.slice a 0 ca,.int .i64 k] w fun e w'=>e = .returned (.int .i64 k)/\w'=w:=by
 go_enter Tryz.func100,Tryz.ntmps100
 go_wp2_with fail
 go_rounds 1
 go_ret
 exact ⟨rfl,rfl⟩
theorem qot (k n j:Nat) (h:j<n):(qby k n)[j]'(by rw [qck];exact h)=⟨((k+2*j:Nat):Int),((k+2*j+1:Nat):Int)⟩:=by simp [qby]
theorem markPieceS_any (g:Nat) (ps:List PM) (k ca:Nat) (w:World) (ha:WCells w g (pcs ps)) (hn:k+2*ps.length<=1000000000) :
  Calls Tryz.prog 100 #[.slice (some ⟨g,0,none⟩) ps.length ca,.int .i64 k] w fun e w'=>e = .returned (.int .i64 (k+2*ps.length:Nat))/\WCells w' g (pcs (qby k ps.length))/\w.grownBy w' (some g):=by
 obtain ⟨n,hnx⟩:∃ n,n=ps.length:=⟨_,rfl⟩
 have HN:=Sh.mk hnx
 rw [<-hnx] at hn ⊢
 have HA:=Sh.mk ha
 clear hnx ha
 go_enter Tryz.func100,Tryz.ntmps100
 go_wp2_with fail
 go_loopw [1,5] (fun c i wr=>∃ (j cc:Nat) (gs:List PM),i = .int .i64 j/\c = .int .i64 cc/\cc<=1000000000/\j<=n/\Sh (cc=k+2*j/\gs.length=n/\gs.take j=(qby k n).take j)/\Sh (WCells wr g (pcs gs))/\Sh (w.grownBy wr (some g))) (fun _ i _=>n - (intOf i).toNat)
 case atStart=>exact ⟨0,k,ps,rfl,rfl,by omega,Nat.zero_le _,⟨rfl,HN.1.symm,rfl⟩,HA,⟨⟨rfl,rfl,rfl,Nat.le_refl _,fun _ _ _=>rfl⟩⟩⟩
 case round =>
  clear HA
  obtain ⟨j,c,gs,rfl,rfl,hc9,hj,HG,hw,hgr⟩:=hrel
  by_cases hlt:j<n
  ·have j0:(0:Int)<=(j:Int):=by omega
   have j1:(j:Int)<(n:Int):=by omega
   have hgk:j<gs.length:=by have:=HG.1.2.1;omega
   obtain ⟨c1,e1⟩:∃ c1,c1=c+1:=⟨_,rfl⟩
   obtain ⟨c2,e2⟩:∃ c2,c2=c+2:=⟨_,rfl⟩
   have HC:=Sh.mk (And.intro e1 e2)
   have i1:(c:Int)+1=(c1:Int):=by omega
   have i2:(c1:Int)+1=(c2:Int):=by omega
   have hb1:c1<=1000000001:=by omega
   have hb2:c2<=1000000000:=by have:=HG.1.1;omega
   obtain ⟨x0,z0⟩:=hw.1.2 (j*2) _ (flat_get qdb gs j hgk 0 (by omega))
   obtain ⟨x1,z1⟩:=hw.1.2 (j*2+1) _ (flat_get qdb gs j hgk 1 (by omega))
   have HS:=Sh.mk (hw.1.setElem qdb j hgk ⟨(c:Int),(c1:Int)⟩)
   have HGR:=Sh.mk (qdj (qdj hgr.1 (qak wr g (j*2) (.int .i64 (c:Int)))) (qak _ g (j*2+1) (.int .i64 (c1:Int))))
   clear e1 e2 hw hgr
   go_wp2_with fail
   go_roundw
   case rel =>
    refine ⟨j+1,c2,gs.set j ⟨(c:Int),(c1:Int)⟩,by go_num,rfl,hb2,by omega,⟨by have:=HG.1.1;have:=HC.1.2;omega,by rw [List.length_set];exact HG.1.2.1,?_⟩,HS,HGR⟩
    have hjm:j<(qby k n).length:=by rw [qck];exact hlt
    rw [List.take_succ_eq_append_getElem (by rw [List.length_set];exact hgk),List.take_succ_eq_append_getElem hjm,List.take_set_of_le (Nat.le_refl _),HG.1.2.2,List.getElem_set_self,qot k n j hlt]
    have h1:=HG.1.1
    have h2:=HC.1.1
    rw [h2,h1]
   case measure=>simp [intOf];omega
  ·have e:gs=qby k n:=by
    have h:=HG.1.2.2
    rw [List.take_of_length_le (by have:=HG.1.2.1;omega),List.take_of_length_le (by rw [qck];omega)] at h;exact h
   have hjn:j=n:=by omega
   have HF:Sh (WCells wr g (pcs (qby k n))):=⟨by rw [<-e];exact hw.1⟩
   have HE:Sh (c=k+2*n):=⟨by have:=HG.1.1;omega⟩
   have hlt':¬ (j:Int)<(n:Int):=by omega
   clear e hjn hw HG
   go_wp2_with fail
   go_ret
   exact ⟨congrArg (fun x:Int=>Ending.returned (.int .i64 x)) (show (c:Int)=_ by have:=HE.1;omega),HF.1,hgr.1⟩
def MarkNodes (g k:Nat) (rs:List NR) (lo hi:Nat) (w:World) (e:Ending) (w':World):Prop:=e = .returned (.int .i64 (markK k (nds rs):Nat))/\TW w' g (qci k rs) lo hi/\Turned w w' lo hi
theorem qsj (c:Nat):((c:Int) % 3==0)=qdu c:=by
 unfold qdu
 rw [Bool.eq_iff_iff]
 simp only [beq_iff_eq,decide_eq_true_eq]
 omega
theorem qsk (c:Nat):((c:Int).tmod 3==0)=qdu c:=by rw [Int.tmod_eq_emod_of_nonneg (by omega)];exact qsj c
theorem markInodeS_any (g:Nat) (rs:List NR) (k ca:Nat) (w:World) (lo hi:Nat) (hm:TW w g rs lo hi) (hk:1<=k) (hn:markK k (nds rs)<=50000000) :
  Calls Tryz.prog 60 #[.slice (some ⟨g,0,none⟩) rs.length ca,.int .i64 k] w fun e w'=>MarkNodes g k rs lo hi w e w':=by
 obtain ⟨n,hnx⟩:∃ n,n=rs.length:=⟨_,rfl⟩
 have HN:=Sh.mk hnx
 have HK:=Sh.mk hn
 have hn9:n<=50000000:=by
  have:=qoq k (nds rs)
  rw [qaf] at this
  omega
 have hglo:=hm.glo
 have hghi:=hm.ghi
 rw [<-hnx]
 have HA:=Sh.mk hm
 clear hnx hm hn
 go_enter Tryz.func60,Tryz.ntmps60
 go_wp2_with fail
 go_loopw [1,5] (fun cv iv wr=>∃ (i c:Nat) (ts:List NR),iv = .int .i64 i/\cv = .int .i64 c/\c<=50000000/\1<=c/\i<=n/\Sh (c=markK k (nds (rs.take i))/\ts=qci k (rs.take i)++rs.drop i)/\Sh (TW wr g ts lo hi/\Turned w wr lo hi)) (fun _ iv _=>n - (intOf iv).toNat)
 case atStart=>exact ⟨0,k,rs,rfl,rfl,by have:=HK.1;have:=(qfv k (nds rs)).1;omega,hk,Nat.zero_le _,⟨rfl,by simp [qci]⟩,⟨HA.1,Turned.refl _ _ _⟩⟩
 case round =>
  clear HA
  obtain ⟨i,c,ts,rfl,rfl,hc9,hc1,hin,HG,HT⟩:=hrel
  by_cases hlt:i<n
  ·have j0:(0:Int)<=(i:Int):=by omega
   have j1:(i:Int)<(n:Int):=by omega
   have hlr:i<rs.length:=by have:=HN.1;omega
   have hml:(qci k (rs.take i)).length=i:=by rw [qhs,List.length_take];omega
   have htl:ts.length=n:=by rw [HG.1.2,List.length_append,hml,List.length_drop,HN.1];omega
   have hits:i<ts.length:=by omega
   have hat:ts[i]=rs[i]:=by
    simp only [HG.1.2]
    rw [List.getElem_append_right (by omega)]
    simp only [hml,Nat.sub_self,List.getElem_drop,Nat.add_zero]
   have hset:ts=ts.set i rs[i]:=by rw [<-hat,List.set_getElem_self]
   have hnext:qci k (rs.take (i+1))++rs.drop (i+1)=ts.set i ⟨markN c rs[i].nd.pieces.length,rs[i].loc,rs[i].cap⟩:=by
    rw [List.take_succ_eq_append_getElem hlr,markRs_snoc,HG.1.2,<-HG.1.1,List.append_assoc,List.set_append,if_neg (by omega)]
    congr 1
    rw [hml,Nat.sub_self,List.drop_eq_getElem_cons hlr]
    rfl
   have hck:markK k (nds (rs.take (i+1)))=c+8+2*rs[i].nd.pieces.length:=by rw [List.take_succ_eq_append_getElem hlr,qcp,qlq,<-HG.1.1]
   have hcb:markK k (nds (rs.take (i+1)))<=50000000:=by
    have:=qlr k (nds rs) (i+1)
    have e:(nds rs).take (i+1)=nds (rs.take (i+1)):=by unfold nds;rw [List.map_take]
    rw [e] at this
    have:=HK.1
    omega
   rcases hr:rs[i] with ⟨⟨id,parent,name,dir,schema,quota,len,pieces,writer⟩,loc,cap⟩
   rw [hr] at hat hset hnext hck
   dsimp only at hnext hck
   obtain ⟨np,hnp⟩:∃ np,np=pieces.length:=⟨_,rfl⟩
   rw [<-hnp] at hnext hck
   rw [hset] at HT
   obtain ⟨c1,e1⟩:∃ c1,c1=c+1:=⟨_,rfl⟩
   obtain ⟨c2,e2⟩:∃ c2,c2=c+2:=⟨_,rfl⟩
   obtain ⟨c3,e3⟩:∃ c3,c3=c+3:=⟨_,rfl⟩
   obtain ⟨c4,e4⟩:∃ c4,c4=c+4:=⟨_,rfl⟩
   obtain ⟨c5,e5⟩:∃ c5,c5=c+5:=⟨_,rfl⟩
   obtain ⟨c6,e6⟩:∃ c6,c6=c+6:=⟨_,rfl⟩
   obtain ⟨c7,e7'⟩:∃ c7,c7=c+7:=⟨_,rfl⟩
   obtain ⟨e7,h7⟩:∃ e7,e7=c+7+2*np:=⟨_,rfl⟩
   obtain ⟨e8,h8⟩:∃ e8,e8=c+8+2*np:=⟨_,rfl⟩
   have i1:(c:Int)+1=(c1:Int):=by omega
   have i2:(c1:Int)+1=(c2:Int):=by omega
   have i3:(c2:Int)+1=(c3:Int):=by omega
   have i4:(c3:Int)+1=(c4:Int):=by omega
   have i5:(c4:Int)+1=(c5:Int):=by omega
   have i6:(c5:Int)+1=(c6:Int):=by omega
   have i7:(c6:Int)+1=(c7:Int):=by omega
   have i8:(e7:Int)+1=(e8:Int):=by omega
   have q1:c1<=60000000:=by omega
   have q2:c2<=60000000:=by omega
   have q3:c3<=60000000:=by omega
   have q4:c4<=60000000:=by omega
   have q5:c5<=60000000:=by omega
   have q6:c6<=60000000:=by omega
   have q7:c7<=60000000:=by omega
   have q8:e7<=60000000:=by omega
   have q9:e8<=50000000:=by omega
   have HMT:=Sh.mk (fun W=>qbc c2 W (by omega) (by omega))
   have HNX:Sh (e8=markK k (nds (rs.take (i+1)))/\ts.set i ⟨⟨(c:Int),(c1:Int),mt c2,qdu c3,(c4:Int),(c5:Int),(c6:Int),qby c7 np,(e7:Int)⟩,loc,cap⟩=qci k (rs.take (i+1))++rs.drop (i+1)):=⟨by omega,by rw [hnext];unfold markN;rw [e1,e2,e3,e4,e5,e6,e7',h7]⟩
   have hd1:=qsj c3
   have hd2:=qsk c3
   have HE7:=Sh.mk (show e7=c7+2*np by omega)
   generalize mt c2=T2 at *
   generalize qdu c3=D3 at *
   have HNP:=Sh.mk hnp
   clear hat hset hnext hck hcb hr htl hml e1 e2 e3 e4 e5 e6 e7' h7 h8 hnp HG
   obtain ⟨x0,z0⟩:=HT.1.1.1.2 (i*9+0) _ (by rw [NKind.cells_get _ i (by rw [List.length_set];exact hits) 0 (by decide),List.getElem_set_self];rfl)
   rw [Nat.add_zero] at x0 z0
   go_upto_region 5 with fail
   refine qaa (fun W=>TW W g (ts.set i (⟨⟨((c:Nat):Int),parent,name,dir,schema,quota,len,pieces,writer⟩,loc,cap⟩:NR)) lo hi/\Turned w W lo hi) ⟨by
    have q:=HT.1.1.cell' i (by rw [List.length_set];exact hits) (⟨⟨id,parent,name,dir,schema,quota,len,pieces,writer⟩,loc,cap⟩:NR) (List.getElem_set_self _) 0 (by decide) (⟨⟨((c:Nat):Int),parent,name,dir,schema,quota,len,pieces,writer⟩,loc,cap⟩:NR) (.int .i64 (c:Int)) rfl (fun q hq hne=>match q,hq,hne with | 0,_,h=>absurd rfl h | 1,_,_=>rfl | 2,_,_=>rfl | 3,_,_=>rfl | 4,_,_=>rfl | 5,_,_=>rfl | 6,_,_=>rfl | 7,_,_=>rfl | 8,_,_=>rfl | x+9,h,_=>absurd h (by omega)) rfl rfl
    rw [List.set_set] at q
    exact q,HT.1.2.trans (Turned.of_grown (qak _ _ _ _) hglo hghi)⟩ ?_
   clear HT x0 z0
   rintro Wid ⟨ht,htu⟩
   have HT:=Sh.mk (And.intro ht htu)
   clear ht htu
   obtain ⟨x1,z1⟩:=HT.1.1.1.2 (i*9+1) _ (by rw [NKind.cells_get _ i (by rw [List.length_set];exact hits) 1 (by decide),List.getElem_set_self];rfl)
   go_upto_region 7 with fail
   refine qaa (fun W=>TW W g (ts.set i (⟨⟨((c:Nat):Int),((c1:Nat):Int),name,dir,schema,quota,len,pieces,writer⟩,loc,cap⟩:NR)) lo hi/\Turned w W lo hi) ⟨by
    have q:=HT.1.1.cell' i (by rw [List.length_set];exact hits) (⟨⟨((c:Nat):Int),parent,name,dir,schema,quota,len,pieces,writer⟩,loc,cap⟩:NR) (List.getElem_set_self _) 1 (by decide) (⟨⟨((c:Nat):Int),((c1:Nat):Int),name,dir,schema,quota,len,pieces,writer⟩,loc,cap⟩:NR) (.int .i64 (c1:Int)) rfl (fun q hq hne=>match q,hq,hne with | 0,_,_=>rfl | 1,_,h=>absurd rfl h | 2,_,_=>rfl | 3,_,_=>rfl | 4,_,_=>rfl | 5,_,_=>rfl | 6,_,_=>rfl | 7,_,_=>rfl | 8,_,_=>rfl | x+9,h,_=>absurd h (by omega)) rfl rfl
    rw [List.set_set] at q
    exact q,HT.1.2.trans (Turned.of_grown (qak _ _ _ _) hglo hghi)⟩ ?_
   clear HT x1 z1
   rintro Wparent ⟨ht,htu⟩
   have HT:=Sh.mk (And.intro ht htu)
   clear ht htu
   go_wp2_with fail
   refine (HMT.1 _).mono ?_
   rintro e wn ⟨rfl,hbn⟩
   replace HT:=Sh.mk (show TW wn g (ts.set i (⟨⟨((c:Nat):Int),((c1:Nat):Int),name,dir,schema,quota,len,pieces,writer⟩,loc,cap⟩:NR)) lo hi/\Turned w wn lo hi from ⟨HT.1.1.below hbn,HT.1.2.trans (Turned.of_below hbn lo hi)⟩)
   clear hbn
   obtain ⟨x2,z2⟩:=HT.1.1.1.2 (i*9+2) _ (by rw [NKind.cells_get _ i (by rw [List.length_set];exact hits) 2 (by decide),List.getElem_set_self];rfl)
   go_upto_region 9 with fail
   refine qaa (fun W=>TW W g (ts.set i (⟨⟨((c:Nat):Int),((c1:Nat):Int),T2,dir,schema,quota,len,pieces,writer⟩,loc,cap⟩:NR)) lo hi/\Turned w W lo hi) ⟨by
    have q:=HT.1.1.cell' i (by rw [List.length_set];exact hits) (⟨⟨((c:Nat):Int),((c1:Nat):Int),name,dir,schema,quota,len,pieces,writer⟩,loc,cap⟩:NR) (List.getElem_set_self _) 2 (by decide) (⟨⟨((c:Nat):Int),((c1:Nat):Int),T2,dir,schema,quota,len,pieces,writer⟩,loc,cap⟩:NR) (.string T2) rfl (fun q hq hne=>match q,hq,hne with | 0,_,_=>rfl | 1,_,_=>rfl | 2,_,h=>absurd rfl h | 3,_,_=>rfl | 4,_,_=>rfl | 5,_,_=>rfl | 6,_,_=>rfl | 7,_,_=>rfl | 8,_,_=>rfl | x+9,h,_=>absurd h (by omega)) rfl rfl
    rw [List.set_set] at q
    exact q,HT.1.2.trans (Turned.of_grown (qak _ _ _ _) hglo hghi)⟩ ?_
   clear HT x2 z2
   rintro Wname ⟨ht,htu⟩
   have HT:=Sh.mk (And.intro ht htu)
   clear ht htu
   obtain ⟨x3,z3⟩:=HT.1.1.1.2 (i*9+3) _ (by rw [NKind.cells_get _ i (by rw [List.length_set];exact hits) 3 (by decide),List.getElem_set_self];rfl)
   go_upto_region 11 with fail
   refine qaa (fun W=>TW W g (ts.set i (⟨⟨((c:Nat):Int),((c1:Nat):Int),T2,D3,schema,quota,len,pieces,writer⟩,loc,cap⟩:NR)) lo hi/\Turned w W lo hi) ⟨by
    have q:=HT.1.1.cell' i (by rw [List.length_set];exact hits) (⟨⟨((c:Nat):Int),((c1:Nat):Int),T2,dir,schema,quota,len,pieces,writer⟩,loc,cap⟩:NR) (List.getElem_set_self _) 3 (by decide) (⟨⟨((c:Nat):Int),((c1:Nat):Int),T2,D3,schema,quota,len,pieces,writer⟩,loc,cap⟩:NR) (.bool D3) rfl (fun q hq hne=>match q,hq,hne with | 0,_,_=>rfl | 1,_,_=>rfl | 2,_,_=>rfl | 3,_,h=>absurd rfl h | 4,_,_=>rfl | 5,_,_=>rfl | 6,_,_=>rfl | 7,_,_=>rfl | 8,_,_=>rfl | x+9,h,_=>absurd h (by omega)) rfl rfl
    rw [List.set_set] at q
    exact q,HT.1.2.trans (Turned.of_grown (qak _ _ _ _) hglo hghi)⟩ ?_
   clear HT x3 z3
   rintro Wdir ⟨ht,htu⟩
   have HT:=Sh.mk (And.intro ht htu)
   clear ht htu
   obtain ⟨x4,z4⟩:=HT.1.1.1.2 (i*9+4) _ (by rw [NKind.cells_get _ i (by rw [List.length_set];exact hits) 4 (by decide),List.getElem_set_self];rfl)
   go_upto_region 13 with fail
   refine qaa (fun W=>TW W g (ts.set i (⟨⟨((c:Nat):Int),((c1:Nat):Int),T2,D3,((c4:Nat):Int),quota,len,pieces,writer⟩,loc,cap⟩:NR)) lo hi/\Turned w W lo hi) ⟨by
    have q:=HT.1.1.cell' i (by rw [List.length_set];exact hits) (⟨⟨((c:Nat):Int),((c1:Nat):Int),T2,D3,schema,quota,len,pieces,writer⟩,loc,cap⟩:NR) (List.getElem_set_self _) 4 (by decide) (⟨⟨((c:Nat):Int),((c1:Nat):Int),T2,D3,((c4:Nat):Int),quota,len,pieces,writer⟩,loc,cap⟩:NR) (.int .i64 (c4:Int)) rfl (fun q hq hne=>match q,hq,hne with | 0,_,_=>rfl | 1,_,_=>rfl | 2,_,_=>rfl | 3,_,_=>rfl | 4,_,h=>absurd rfl h | 5,_,_=>rfl | 6,_,_=>rfl | 7,_,_=>rfl | 8,_,_=>rfl | x+9,h,_=>absurd h (by omega)) rfl rfl
    rw [List.set_set] at q
    exact q,HT.1.2.trans (Turned.of_grown (qak _ _ _ _) hglo hghi)⟩ ?_
   clear HT x4 z4
   rintro Wschema ⟨ht,htu⟩
   have HT:=Sh.mk (And.intro ht htu)
   clear ht htu
   obtain ⟨x5,z5⟩:=HT.1.1.1.2 (i*9+5) _ (by rw [NKind.cells_get _ i (by rw [List.length_set];exact hits) 5 (by decide),List.getElem_set_self];rfl)
   go_upto_region 15 with fail
   refine qaa (fun W=>TW W g (ts.set i (⟨⟨((c:Nat):Int),((c1:Nat):Int),T2,D3,((c4:Nat):Int),((c5:Nat):Int),len,pieces,writer⟩,loc,cap⟩:NR)) lo hi/\Turned w W lo hi) ⟨by
    have q:=HT.1.1.cell' i (by rw [List.length_set];exact hits) (⟨⟨((c:Nat):Int),((c1:Nat):Int),T2,D3,((c4:Nat):Int),quota,len,pieces,writer⟩,loc,cap⟩:NR) (List.getElem_set_self _) 5 (by decide) (⟨⟨((c:Nat):Int),((c1:Nat):Int),T2,D3,((c4:Nat):Int),((c5:Nat):Int),len,pieces,writer⟩,loc,cap⟩:NR) (.int .i64 (c5:Int)) rfl (fun q hq hne=>match q,hq,hne with | 0,_,_=>rfl | 1,_,_=>rfl | 2,_,_=>rfl | 3,_,_=>rfl | 4,_,_=>rfl | 5,_,h=>absurd rfl h | 6,_,_=>rfl | 7,_,_=>rfl | 8,_,_=>rfl | x+9,h,_=>absurd h (by omega)) rfl rfl
    rw [List.set_set] at q
    exact q,HT.1.2.trans (Turned.of_grown (qak _ _ _ _) hglo hghi)⟩ ?_
   clear HT x5 z5
   rintro Wquota ⟨ht,htu⟩
   have HT:=Sh.mk (And.intro ht htu)
   clear ht htu
   obtain ⟨x6,z6⟩:=HT.1.1.1.2 (i*9+6) _ (by rw [NKind.cells_get _ i (by rw [List.length_set];exact hits) 6 (by decide),List.getElem_set_self];rfl)
   go_upto_region 17 with fail
   refine qaa (fun W=>TW W g (ts.set i (⟨⟨((c:Nat):Int),((c1:Nat):Int),T2,D3,((c4:Nat):Int),((c5:Nat):Int),((c6:Nat):Int),pieces,writer⟩,loc,cap⟩:NR)) lo hi/\Turned w W lo hi) ⟨by
    have q:=HT.1.1.cell' i (by rw [List.length_set];exact hits) (⟨⟨((c:Nat):Int),((c1:Nat):Int),T2,D3,((c4:Nat):Int),((c5:Nat):Int),len,pieces,writer⟩,loc,cap⟩:NR) (List.getElem_set_self _) 6 (by decide) (⟨⟨((c:Nat):Int),((c1:Nat):Int),T2,D3,((c4:Nat):Int),((c5:Nat):Int),((c6:Nat):Int),pieces,writer⟩,loc,cap⟩:NR) (.int .i64 (c6:Int)) rfl (fun q hq hne=>match q,hq,hne with | 0,_,_=>rfl | 1,_,_=>rfl | 2,_,_=>rfl | 3,_,_=>rfl | 4,_,_=>rfl | 5,_,_=>rfl | 6,_,h=>absurd rfl h | 7,_,_=>rfl | 8,_,_=>rfl | x+9,h,_=>absurd h (by omega)) rfl rfl
    rw [List.set_set] at q
    exact q,HT.1.2.trans (Turned.of_grown (qak _ _ _ _) hglo hghi)⟩ ?_
   clear HT x6 z6
   rintro Wlen ⟨ht,htu⟩
   have HT:=Sh.mk (And.intro ht htu)
   clear ht htu
   have hrow:=HT.1.1.rows (⟨⟨((c:Nat):Int),((c1:Nat):Int),T2,D3,((c4:Nat):Int),((c5:Nat):Int),((c6:Nat):Int),pieces,writer⟩,loc,cap⟩:NR) (List.mem_iff_getElem.2 ⟨i,by rw [List.length_set];exact hits,List.getElem_set_self _⟩)
   obtain ⟨x7,z7⟩:=HT.1.1.1.2 (i*9+7) _ (by rw [NKind.cells_get _ i (by rw [List.length_set];exact hits) 7 (by decide),List.getElem_set_self];rfl)
   have hcall:∃ W8,True:=⟨w,trivial⟩
   clear hcall
   dsimp only at x7
   rw [<-HNP.1] at x7
   have HCALL:Sh (Calls Tryz.prog 100 #[.slice loc np cap,.int .i64 c7] Wlen fun e w'=>e = .returned (.int .i64 e7)/\TW w' g (ts.set i (⟨⟨((c:Nat):Int),((c1:Nat):Int),T2,D3,((c4:Nat):Int),((c5:Nat):Int),((c6:Nat):Int),(qby c7 np),writer⟩,loc,cap⟩:NR)) lo hi/\Turned w w' lo hi):=by
    rcases hrow with hemp | ⟨b,hb,hb1,hb2,hb3,hb4⟩
    ·have hp0:pieces=[]:=pcs_nil.1 hemp
     have hn0:np=0:=by rw [HNP.1,hp0];rfl
     subst hn0
     refine ⟨(qff loc c7 cap Wlen).mono ?_⟩
     rintro e w' ⟨rfl,rfl⟩
     refine ⟨by rw [HE7.1];rfl,?_,HT.1.2⟩
     have:qby c7 0=pieces:=by rw [hp0];rfl
     rw [this]
     exact HT.1.1
    ·by_cases hp0:pieces=[]
     ·have hn0:np=0:=by rw [HNP.1,hp0];rfl
      subst hn0
      refine ⟨(qff loc c7 cap Wlen).mono ?_⟩
      rintro e w' ⟨rfl,rfl⟩
      refine ⟨by rw [HE7.1];rfl,?_,HT.1.2⟩
      have:qby c7 0=pieces:=by rw [hp0];rfl
      rw [this]
      exact HT.1.1
     ·have hlb:loc=some ⟨b,0,none⟩:=hb
      have hcl:=markPieceS_any b pieces c7 cap Wlen hb4 (by have:=HNP.1;have:=HE7.1;omega)
      rw [<-HNP.1] at hcl
      rw [hlb]
      refine ⟨hcl.mono ?_⟩
      rintro e w' ⟨rfl,hw',hg'⟩
      refine ⟨by rw [<-HE7.1],?_,HT.1.2.trans (Turned.of_grown hg' hb1 hb2)⟩
      have q:=HT.1.1.pieces i (by rw [List.length_set];exact hits) b (by rw [List.getElem_set_self];exact hlb) (by rw [List.getElem_set_self];exact hp0) (⟨⟨((c:Nat):Int),((c1:Nat):Int),T2,D3,((c4:Nat):Int),((c5:Nat):Int),((c6:Nat):Int),(qby c7 np),writer⟩,loc,cap⟩:NR) (by rw [List.getElem_set_self];unfold qaj;dsimp only;rw [qck,HNP.1]) (by rw [List.getElem_set_self]) hw' hg'
      rw [List.set_set,hlb] at q
      exact q
   clear hrow HT
   go_wp2_with fail
   refine HCALL.1.mono ?_
   rintro e Wp ⟨rfl,ht,htu⟩
   have HT:=Sh.mk (And.intro ht htu)
   clear ht htu HCALL
   obtain ⟨x8,z8⟩:=HT.1.1.1.2 (i*9+8) _ (by rw [NKind.cells_get _ i (by rw [List.length_set];exact hits) 8 (by decide),List.getElem_set_self];rfl)
   go_upto_region 20 with fail
   refine qaa (fun W=>TW W g (ts.set i (⟨⟨((c:Nat):Int),((c1:Nat):Int),T2,D3,((c4:Nat):Int),((c5:Nat):Int),((c6:Nat):Int),(qby c7 np),((e7:Nat):Int)⟩,loc,cap⟩:NR)) lo hi/\Turned w W lo hi) ⟨by
    have q:=HT.1.1.cell' i (by rw [List.length_set];exact hits) (⟨⟨((c:Nat):Int),((c1:Nat):Int),T2,D3,((c4:Nat):Int),((c5:Nat):Int),((c6:Nat):Int),(qby c7 np),writer⟩,loc,cap⟩:NR) (List.getElem_set_self _) 8 (by decide) (⟨⟨((c:Nat):Int),((c1:Nat):Int),T2,D3,((c4:Nat):Int),((c5:Nat):Int),((c6:Nat):Int),(qby c7 np),((e7:Nat):Int)⟩,loc,cap⟩:NR) (.int .i64 (e7:Int)) rfl (fun q hq hne=>match q,hq,hne with | 0,_,_=>rfl | 1,_,_=>rfl | 2,_,_=>rfl | 3,_,_=>rfl | 4,_,_=>rfl | 5,_,_=>rfl | 6,_,_=>rfl | 7,_,_=>rfl | 8,_,h=>absurd rfl h | x+9,h,_=>absurd h (by omega)) rfl rfl
    rw [List.set_set] at q
    exact q,HT.1.2.trans (Turned.of_grown (qak _ _ _ _) hglo hghi)⟩ ?_
   clear HT x8 z8
   rintro Wwriter ⟨ht,htu⟩
   have HT:=Sh.mk (And.intro ht htu)
   clear ht htu
   go_wp2_with fail
   go_roundw
   case rel=>exact ⟨i+1,e8,ts.set i (⟨⟨((c:Nat):Int),((c1:Nat):Int),T2,D3,((c4:Nat):Int),((c5:Nat):Int),((c6:Nat):Int),(qby c7 np),((e7:Nat):Int)⟩,loc,cap⟩:NR),by go_num,rfl,q9,by omega,by omega,⟨HNX.1.1,HNX.1.2⟩,HT⟩
   case measure=>simp [intOf];omega
  ·have e:i=n:=by omega
   have hall:rs.take i=rs:=List.take_of_length_le (by have:=HN.1;omega)
   have hnil:rs.drop i=[]:=List.drop_eq_nil_of_le (by have:=HN.1;omega)
   have hlt':¬ (i:Int)<(n:Int):=by omega
   have HF:Sh (c=markK k (nds rs)/\ts=qci k rs):=⟨by have:=HG.1.1;rwa [hall] at this,by have:=HG.1.2;rwa [hall,hnil,List.append_nil] at this⟩
   clear hall hnil HG e
   go_wp2_with fail
   go_ret
   exact ⟨by rw [<-HF.1.1];rfl,by rw [<-HF.1.2];exact HT.1.1,HT.1.2⟩
theorem heldPieceS_any (a:Option Addr) (k n ca:Nat) (w:World) (lo hi:Nat) (ha:RRow w a (pcs (qby k n)) lo hi) (hn:k+2*n<=1000000000) :
  Calls Tryz.prog 101 #[.slice a n ca,.int .i64 k] w fun e w'=>e = .returned (.int .i64 (k+2*n:Nat))/\Below w.heap.size w w':=by
 have HA:=Sh.mk ha
 clear ha
 go_enter Tryz.func101,Tryz.ntmps101
 go_wp2_with fail
 go_loopw [1,5] (fun c i wr=>∃ (j cc:Nat),i = .int .i64 j/\c = .int .i64 cc/\cc<=1000000000/\j<=n/\Sh (cc=k+2*j)/\Sh (Below w.heap.size w wr)) (fun _ i _=>n - (intOf i).toNat)
 case atStart=>exact ⟨0,k,rfl,rfl,by omega,Nat.zero_le _,⟨rfl⟩,⟨Below.refl _ _⟩⟩
 case round =>
  obtain ⟨j,c,rfl,rfl,hc9,hj,HC,hb⟩:=hrel
  by_cases hlt:j<n
  ·have j0:(0:Int)<=(j:Int):=by omega
   have j1:(j:Int)<(n:Int):=by omega
   obtain ⟨b,off,rfl,lb,hcell⟩:=qon (HA.1.below hb.1) (by rw [qck];omega)
   obtain ⟨d0,d1⟩:=hcell j (by rw [qck];exact hlt)
   rw [qot k n j hlt] at d0 d1
   obtain ⟨c1,e1⟩:∃ c1,c1=c+1:=⟨_,rfl⟩
   obtain ⟨c2,e2⟩:∃ c2,c2=c+2:=⟨_,rfl⟩
   dsimp only at d0 d1
   rw [show k+2*j=c from HC.1.symm] at d0
   rw [show k+2*j+1=c1 by rw [e1,HC.1]] at d1
   have HCC:Sh (c2=k+2*(j+1)):=⟨by have:=HC.1;omega⟩
   have i1:(c:Int)+1=(c1:Int):=by omega
   have i2:(c1:Int)+1=(c2:Int):=by omega
   have hb1:c1<=1000000001:=by omega
   have hb2:c2<=1000000000:=by have:=HC.1;omega
   have h1:((c:Int) != (c:Int))=false:=by simp
   have h2:((c1:Int) != (c1:Int))=false:=by simp
   clear e1 e2 hcell
   go_wp2_with fail
   go_roundw
   case rel=>exact ⟨j+1,c2,by go_num,rfl,hb2,by omega,HCC,hb⟩
   case measure=>simp [intOf];omega
  ·have HE:Sh (c=k+2*n):=⟨by have:=HC.1;omega⟩
   have hlt':¬ (j:Int)<(n:Int):=by omega
   go_wp2_with fail
   go_ret
   exact ⟨congrArg (fun x:Int=>Ending.returned (.int .i64 x)) (show (c:Int)=_ by have:=HE.1;omega),hb.1⟩
theorem markRs_at (k:Nat) (rs:List NR) (i:Nat) (h:i<rs.length):(qci k rs)[i]'(by rw [qhs];exact h)=⟨markN (markK k (nds (rs.take i))) rs[i].nd.pieces.length,rs[i].loc,rs[i].cap⟩:=by
 induction rs generalizing k i with
 | nil=>simp at h
 | cons r rs ih =>
  cases i with
  | zero=>rfl
  | succ i =>
   simp only [qci,List.getElem_cons_succ,List.take_succ_cons,nds,List.map_cons,markK]
   exact ih _ i (by simpa using h)
theorem heldInodeS_any (a:Option Addr) (rs:List NR) (k ca:Nat) (w:World) (lo hi:Nat) (hm:TR w a (qci k rs) lo hi) (hk:1<=k) (hn:markK k (nds rs)<=50000000) :
  Calls Tryz.prog 62 #[.slice a rs.length ca,.int .i64 k] w fun e w'=>e = .returned (.int .i64 (markK k (nds rs):Nat))/\Below w.heap.size w w':=by
 obtain ⟨n,hnx⟩:∃ n,n=rs.length:=⟨_,rfl⟩
 have HN:=Sh.mk hnx
 have HK:=Sh.mk hn
 have hn9:n<=50000000:=by
  have:=qoq k (nds rs)
  rw [qaf] at this
  omega
 rw [<-hnx]
 have HA:=Sh.mk hm
 obtain ⟨K,hKe⟩:∃ K,K=markK k (nds rs):=⟨_,rfl⟩
 rw [<-hKe]
 have HKE:=Sh.mk hKe
 clear hnx hm hn hKe
 go_enter Tryz.func62,Tryz.ntmps62
 go_wp2_with fail
 go_loopw [1,5] (fun cv iv wr=>∃ (i c:Nat),iv = .int .i64 i/\cv = .int .i64 c/\c<=50000000/\1<=c/\i<=n/\Sh (c=markK k (nds (rs.take i)))/\Sh (Below w.heap.size w wr)) (fun _ iv _=>n - (intOf iv).toNat)
 case atStart=>exact ⟨0,k,rfl,rfl,by have:=HK.1;have:=(qfv k (nds rs)).1;omega,hk,Nat.zero_le _,⟨rfl⟩,⟨Below.refl _ _⟩⟩
 case round =>
  obtain ⟨i,c,rfl,rfl,hc9,hc1,hin,HC,hbl⟩:=hrel
  by_cases hlt:i<n
  ·have j0:(0:Int)<=(i:Int):=by omega
   have j1:(i:Int)<(n:Int):=by omega
   have hlr:i<rs.length:=by have:=HN.1;omega
   have hmr:i<(qci k rs).length:=by rw [qhs];exact hlr
   obtain ⟨b,off,rfl,lb,hcell⟩:=TR.nat (HA.1.below hbl.1) (by omega)
   have hat:=hcell i hmr
   have hprow:=((HA.1.below hbl.1).2 _ (List.getElem_mem hmr))
   rw [markRs_at k rs i hlr,<-HC.1] at hat hprow
   have hck:markK k (nds (rs.take (i+1)))=c+8+2*rs[i].nd.pieces.length:=by rw [List.take_succ_eq_append_getElem hlr,qcp,qlq,<-HC.1]
   have hcb:markK k (nds (rs.take (i+1)))<=50000000:=by
    have:=qlr k (nds rs) (i+1)
    have e:(nds rs).take (i+1)=nds (rs.take (i+1)):=by unfold nds;rw [List.map_take]
    rw [e] at this
    have:=HK.1
    omega
   generalize rs[i].nd.pieces.length=np at *
   generalize rs[i].loc=loc at *
   generalize rs[i].cap=cap at *
   unfold NAt markN at hat
   dsimp only at hat
   unfold markN at hprow
   dsimp only at hprow
   rw [qck] at hat
   obtain ⟨c1,e1⟩:∃ c1,c1=c+1:=⟨_,rfl⟩
   obtain ⟨c2,e2⟩:∃ c2,c2=c+2:=⟨_,rfl⟩
   obtain ⟨c3,e3⟩:∃ c3,c3=c+3:=⟨_,rfl⟩
   obtain ⟨c4,e4⟩:∃ c4,c4=c+4:=⟨_,rfl⟩
   obtain ⟨c5,e5⟩:∃ c5,c5=c+5:=⟨_,rfl⟩
   obtain ⟨c6,e6⟩:∃ c6,c6=c+6:=⟨_,rfl⟩
   obtain ⟨c7,e7'⟩:∃ c7,c7=c+7:=⟨_,rfl⟩
   obtain ⟨e7,h7⟩:∃ e7,e7=c+7+2*np:=⟨_,rfl⟩
   obtain ⟨e8,h8⟩:∃ e8,e8=c+8+2*np:=⟨_,rfl⟩
   rw [<-e1,<-e2,<-e3,<-e4,<-e5,<-e6,<-h7] at hat
   rw [<-e7'] at hprow
   have i1:(c:Int)+1=(c1:Int):=by omega
   have i2:(c1:Int)+1=(c2:Int):=by omega
   have i3:(c2:Int)+1=(c3:Int):=by omega
   have i4:(c3:Int)+1=(c4:Int):=by omega
   have i5:(c4:Int)+1=(c5:Int):=by omega
   have i6:(c5:Int)+1=(c6:Int):=by omega
   have i7:(c6:Int)+1=(c7:Int):=by omega
   have i8:(e7:Int)+1=(e8:Int):=by omega
   have q1:c1<=60000000:=by omega
   have q2:c2<=60000000:=by omega
   have q3:c3<=60000000:=by omega
   have q4:c4<=60000000:=by omega
   have q5:c5<=60000000:=by omega
   have q6:c6<=60000000:=by omega
   have q7:c7<=60000000:=by omega
   have q8:e7<=60000000:=by omega
   have q9:e8<=50000000:=by omega
   have q10:¬ (e7:Int)<0:=by omega
   have n0:((c:Int) != (c:Int))=false:=by simp
   have n1:((c1:Int) != (c1:Int))=false:=by simp
   have n4:((c4:Int) != (c4:Int))=false:=by simp
   have n5:((c5:Int) != (c5:Int))=false:=by simp
   have n6:((c6:Int) != (c6:Int))=false:=by simp
   have n7:((e7:Int) != (e7:Int))=false:=by simp
   have HMT:=Sh.mk (fun W=>qbc c2 W (by omega) (by omega))
   have HPS:=Sh.mk (fun W (hW:Below wr.heap.size wr W)=>heldPieceS_any loc c7 np cap W lo hi (hprow.below hW) (by omega))
   rw [show c7+2*np=e7 by omega] at HPS
   have HNX:Sh (e8=markK k (nds (rs.take (i+1)))):=⟨by omega⟩
   have hd1:=qsj c3
   have hd2:=qsk c3
   have n2:=qop (mt c2)
   have n3:(qdu c3 != qdu c3)=false:=by cases qdu c3 <;> rfl
   generalize mt c2=T2 at *
   generalize qdu c3=D3 at *
   have HAT:=Sh.mk hat
   obtain ⟨d0,d1,d2,_,_,_,_,_,_⟩:=hat
   clear hcell hprow hck hcb e1 e2 e3 e4 e5 e6 e7' h7 h8 HC
   go_wp2_with fail
   go_region_held3 (fun w'=>w'.cell? ⟨b,off+i*9+2,none⟩=some (.string T2))
    (first | go_keep | assumption | (rw [hb1.cell (p:=⟨b,off+i*9+2,none⟩) (by exact lb)];assumption))
    ((go_at_call 61;refine (HMT.1 _).mono ?_;rintro e w1 ⟨rfl,hb1⟩))
   all_goals
    have hb2:Below wr.heap.size wr w1:=(Below.drew (Below.refl _ _)).trans hb1
    have HB2:=Sh.mk hb2
    have k3:=(hb2.cell (p:=⟨b,off+i*9+3,none⟩) lb).trans HAT.1.2.2.2.1
    have k4:=(hb2.cell (p:=⟨b,off+i*9+4,none⟩) lb).trans HAT.1.2.2.2.2.1
    have k5:=(hb2.cell (p:=⟨b,off+i*9+5,none⟩) lb).trans HAT.1.2.2.2.2.2.1
    have k6:=(hb2.cell (p:=⟨b,off+i*9+6,none⟩) lb).trans HAT.1.2.2.2.2.2.2.1
    have k7:=(hb2.cell (p:=⟨b,off+i*9+7,none⟩) lb).trans HAT.1.2.2.2.2.2.2.2.1
    clear hb1 hb2 d0 d1 d2
    go_wp2_with fail
    refine (HPS.1 _ HB2.1).mono ?_
    rintro e w2 ⟨rfl,hb3⟩
    have HB3:=Sh.mk (HB2.1.trans (hb3.mono HB2.1.size))
    have k8:=(HB3.1.cell (p:=⟨b,off+i*9+8,none⟩) lb).trans HAT.1.2.2.2.2.2.2.2.2
    have HB4:=Sh.mk (hbl.1.trans (HB3.1.mono hbl.1.size))
    clear hb3 HB2 HB3 k3 k4 k5 k6 k7
    go_wp2_with fail
    go_roundw
    case rel=>exact ⟨i+1,e8,by go_num,rfl,q9,by omega,by omega,HNX,HB4⟩
    case measure=>simp [intOf];omega
  ·have hall:rs.take i=rs:=List.take_of_length_le (by have:=HN.1;omega)
   have hlt':¬ (i:Int)<(n:Int):=by omega
   have HF:Sh (c=K):=⟨by have:=HC.1;rw [hall] at this;rw [this,HKE.1]⟩
   clear hall HC
   go_wp2_with fail
   go_ret
   exact ⟨congrArg (fun x:Nat=>Ending.returned (.int .i64 (x:Int))) HF.1,hbl.1⟩
def THeld (w:World) (v:Value) (k:Nat) (T:TM) (lo hi:Nat):Prop:=∃ (a:Option Addr) (cap:Nat) (rs:List NR),v = .agg #[.slice a rs.length cap,.int .i64 T.next]/\nds rs=T.nodes/\TR w a (qci k rs) lo hi
theorem THeld.turned {w w':World} {v:Value} {k:Nat} {T:TM} {lo hi lo' hi':Nat} (h:THeld w v k T lo hi) (t:Turned w w' lo' hi') (hd:hi<=lo'\/hi'<=lo):THeld w' v k T lo hi:=by
 obtain ⟨a,cap,rs,e,hr,h1⟩:=h
 exact ⟨a,cap,rs,e,hr,h1.turned t hd⟩
theorem THeld.below {w w':World} {v:Value} {k:Nat} {T:TM} {lo hi:Nat} (h:THeld w v k T lo hi) (hb:Below w.heap.size w w'):THeld w' v k T lo hi:=by
 obtain ⟨a,cap,rs,e,hr,h1⟩:=h
 exact ⟨a,cap,rs,e,hr,h1.below hb⟩
theorem markInodeS_nil (a:Option Addr) (k ca:Nat) (w:World):Calls Tryz.prog 60 #[.slice a 0 ca,.int .i64 k] w fun e w'=>e = .returned (.int .i64 k)/\w'=w:=by
 go_enter Tryz.func60,Tryz.ntmps60
 go_wp2_with fail
 go_rounds 1
 go_ret
 exact ⟨rfl,rfl⟩
theorem qrb {T:TM} (hf:NFit T) (k:Nat) (hk:k<=1000):markK k T.nodes<=50000000:=by
 have:=(qfv k T.nodes).2
 unfold NFit at hf
 omega
theorem markTree_val {w:World} {v:Value} {T:TM} {lo hi:Nat} (k:Nat) (h:TAns w v T lo hi) (hf:NFit T) (h1:1<=k) (hk:k<=1000) :
  Calls Tryz.prog 25 #[v,.int .i64 k] w fun e w'=>e = .returned (.int .i64 (markK k T.nodes:Nat))/\THeld w' v k T lo hi/\Turned w w' lo hi:=by
 obtain ⟨a,cap,rs,rfl,hr,hc,h2⟩:=h
 have hmf:=qrb hf k hk
 rw [<-hr] at hmf
 have hsz:∀ W,W=w.alloc (.cells #[.slice a rs.length cap,.int .i64 T.next] 42)->Below w.heap.size w W:=fun W e=>by rw [e];exact (Below.refl _ _).alloc (Nat.le_refl _) _
 have HB:=Sh.mk (hsz _ rfl)
 have HC:Sh (Calls Tryz.prog 60 #[.slice a rs.length cap,.int .i64 k] (w.alloc (.cells #[.slice a rs.length cap,.int .i64 T.next] 42)) fun e w'=>e = .returned (.int .i64 (markK k T.nodes:Nat))/\TR w' a (qci k rs) lo hi/\Turned w w' lo hi):=by
  rcases h2 with rfl | ⟨g,rfl,hm⟩
  ·refine ⟨(markInodeS_nil a k cap _).mono ?_⟩
   rintro e w' ⟨rfl,rfl⟩
   have hx:T.nodes=[]:=by rw [<-hr];rfl
   exact ⟨by rw [hx];rfl,GR.nil _ _ _ _ _,Turned.of_below HB.1 lo hi⟩
  ·refine ⟨(markInodeS_any g rs k cap _ lo hi (hm.below HB.1) h1 hmf).mono ?_⟩
   rintro e w' ⟨rfl,hw',ht⟩
   exact ⟨by rw [hr],hw'.gr,(Turned.of_below HB.1 lo hi).trans ht⟩
 have HR:=Sh.mk hr
 obtain ⟨m,hme⟩:∃ m,m=markK k T.nodes:=⟨_,rfl⟩
 have HME:m<=50000000:=by rw [hme,<-hr];exact hmf
 rw [<-hme] at HC ⊢
 obtain ⟨nx,hnx⟩:∃ nx,nx=T.next:=⟨_,rfl⟩
 have HNX:=Sh.mk hnx
 rw [<-hnx] at HC HB ⊢
 obtain ⟨n,hnl⟩:∃ n,n=rs.length:=⟨_,rfl⟩
 have HNL:=Sh.mk hnl
 rw [<-hnl] at HC HB ⊢
 clear hmf hsz h2 hr hc hf hme hnx hnl
 go_enter Tryz.func25,Tryz.ntmps25
 go_wp2_with fail
 refine HC.1.mono ?_
 rintro e w2 ⟨rfl,ht,htu⟩
 have HT:=Sh.mk (And.intro ht htu)
 clear ht htu HC
 go_wp2_with fail
 go_ret
 exact ⟨rfl,⟨a,cap,rs,by rw [HNX.1,HNL.1],HR.1,HT.1.1⟩,HT.1.2⟩
theorem heldTree_val {w:World} {v:Value} {k:Nat} {T:TM} {lo hi:Nat} (h:THeld w v k T lo hi) (hf:NFit T) (h1:1<=k) (hk:k<=1000) :
  Calls Tryz.prog 27 #[v,.int .i64 k] w fun e w'=>e = .returned (.int .i64 (markK k T.nodes:Nat))/\Below w.heap.size w w':=by
 obtain ⟨a,cap,rs,rfl,hr,hm⟩:=h
 have hmf:=qrb hf k hk
 rw [<-hr] at hmf
 have HB:=Sh.mk (show Below w.heap.size w (w.alloc (.cells #[.slice a rs.length cap,.int .i64 T.next] 42)) from (Below.refl _ _).alloc (Nat.le_refl _) _)
 have HC:=Sh.mk (heldInodeS_any a rs k cap _ lo hi (hm.below HB.1) h1 hmf)
 rw [hr] at HC hmf
 obtain ⟨m,hme⟩:∃ m,m=markK k T.nodes:=⟨_,rfl⟩
 rw [<-hme] at HC hmf ⊢
 generalize T.next=nx at *
 generalize rs.length=n at *
 have hm0:¬ (m:Int)<0:=by omega
 clear hm hr hf hme
 go_enter Tryz.func27,Tryz.ntmps27
 go_wp2_with fail
 refine HC.1.mono ?_
 rintro e w2 ⟨rfl,hb⟩
 have HB2:=Sh.mk (HB.1.trans (hb.mono HB.1.size))
 clear hb HC
 go_wp2_with fail
 go_ret
 exact ⟨rfl,HB2.1⟩
abbrev trS (v:Value) (T:TM) (lo hi:Nat):Str:=⟨fun W=>TAns W v T lo hi,lo,hi⟩
abbrev thS (v:Value) (T:TM) (lo hi:Nat):Str:=⟨fun W=>THeld W v 1 T lo hi,lo,hi⟩
theorem trS.loc (v:Value) (T:TM) (lo hi:Nat):(trS v T lo hi).Loc:=fun _ _ _ _ h t hd=>TAns.turned h t hd
theorem thS.loc (v:Value) (T:TM) (lo hi:Nat):(thS v T lo hi).Loc:=fun _ _ _ _ h t hd=>THeld.turned h t hd
section
variable {P:Program} {ops:Array Oper} {Q:Exit->Act->World->Prop} {md:Region.Mode} {m:Nat}
def qrt (m:Nat) (ops:Array Oper) (l:Array Bool):Bool:=(List.range m).all fun j=>l.getD j true||decide (ops.size<=j)
theorem tailed_spec {l:Array Bool} (h:qrt m ops l=true) {j:Nat} (hj:l.getD j true=false) (hs:j<ops.size):m<=j:=by
 refine Nat.le_of_not_lt fun hlt=>?_
 have:=List.all_eq_true.1 h j (by simpa using hlt)
 rw [hj,Bool.false_or,decide_eq_true_eq] at this
 omega
def wpK (P:Program) (md:Region.Mode) (ops:Array Oper) (Q:Exit->Act->World->Prop) (m:Nat):Nat->Array Bool->Act->World->Prop
 | 0,l,a,w=>∀ x,Later w x->wpAny P md ops Q 0 l a x
 | n+1,l,a,w=>(qrt m ops l=true/\∀ x,Later w x->wpAny P md ops Q (n+1) l a x)\/(∀ x,Later w x->(Region.ready md ops l=[]->Q .normal a x) /\
   ∀ i ∈ Region.ready md ops l,wpOp P ops Q i (fun a' y=>Later x y/\wpK P md ops Q m n (l.setIfInBounds i true) a' y) a x)
theorem qnf:∀ (n:Nat) (l:Array Bool) (a:Act) (w y:World),Later w y->wpK P md ops Q m n l a w->wpK P md ops Q m n l a y
 | 0,_,_,_,_,hy,h=>fun x hx=>h x (hy.trans hx)
 | _+1,_,_,_,_,hy,h=>h.imp (fun q=>⟨q.1,fun x hx=>q.2 x (hy.trans hx)⟩) (fun q x hx=>q x (hy.trans hx))
theorem qky:∀ (n:Nat) (l:Array Bool) (a:Act) (w:World),wpK P md ops Q m n l a w->wpAny P md ops Q n l a w
 | 0,_,_,w,h=>h w (Later.refl w)
 | n+1,_,_,w,h=>by
  rcases h with h | h
  ·exact h.2 w (Later.refl w)
  ·exact ⟨(h w (Later.refl w)).1,fun i hi=>wpOp_mono (fun a' y hh=>qky n _ a' y hh.2) ((h w (Later.refl w)).2 i hi)⟩
def clo (md:Region.Mode) (ops:Array Oper) (l:Array Bool) (i:Nat):List Nat:=(List.range ops.size).foldl (fun acc f=>if !(l.getD f true)&&(((ops[f]?).map fun o=>o.after.any fun e=>Region.binds md e&&((e.on==i)||acc.contains e.on))==some true) then f::acc else acc) []
def waits (md:Region.Mode) (m:Nat) (ops:Array Oper) (l:Array Bool) (i:Nat) (C:List Nat):Bool:=
 (C.all fun c=>!(l.getD c true)&&(((ops[c]?).map fun o=>o.after.any fun e=>Region.binds md e&&((e.on==i)||C.contains e.on))==some true))&&((List.range ops.size).all fun f=>decide (f<m)||l.getD f true||C.contains f)
theorem qfo {l:Array Bool} {k:Nat} (h1:l.getD k true=false) (h2:l.getD k false=true):False:=by
 unfold Array.getD at h1 h2
 split at h1
 ·rename_i h
  rw [dif_pos h] at h2
  rw [h1] at h2
  cases h2
 ·cases h1
theorem waits_spec {l:Array Bool} {i:Nat} {C:List Nat} (h:waits md m ops l i C=true) (hi:l.getD i true=false):∀ c ∈ C,c ∉ Region.ready md ops l:=by
 unfold waits at h
 rw [Bool.and_eq_true] at h
 intro c hc hr
 have h1:=List.all_eq_true.1 h.1 c hc
 rw [Bool.and_eq_true] at h1
 obtain ⟨-,o,ho,hall⟩:=mem_ready.1 hr
 rw [ho] at h1
 simp only [Option.map_some,beq_iff_eq,Option.some.injEq] at h1
 have h2:=h1.2
 rw [Array.any_eq_true'] at h2
 obtain ⟨e,he,q⟩:=h2
 rw [Bool.and_eq_true,Bool.or_eq_true] at q
 have hd:=hall e he q.1
 rcases q.2 with q2 | q2
 ·rw [beq_iff_eq] at q2
  rw [q2] at hd
  exact qfo hi hd
 ·have hm:e.on ∈ C:=by simpa using q2
  have h3:=List.all_eq_true.1 h.1 _ hm
  rw [Bool.and_eq_true,Bool.not_eq_true'] at h3
  exact qfo h3.1 hd
theorem waits_last {l:Array Bool} {i f:Nat} {C:List Nat} (h:waits md m ops l i C=true) (hf:m<=f) (hu:l.getD f true=false) (hs:f<ops.size):f ∈ C:=by
 unfold waits at h
 rw [Bool.and_eq_true] at h
 have:=List.all_eq_true.1 h.2 f (by simpa using hs)
 rw [hu,Bool.or_false,Bool.or_eq_true,decide_eq_true_eq] at this
 rcases this with q | q
 ·omega
 ·simpa using q
theorem waits_step {l:Array Bool} {i j:Nat} {C:List Nat} (h:waits md m ops l i C=true) (hj:j ∉ C):waits md m ops (l.setIfInBounds j true) i C=true:=by
 unfold waits at h ⊢
 rw [Bool.and_eq_true] at h ⊢
 refine ⟨List.all_eq_true.2 fun c hc=>?_,List.all_eq_true.2 fun f hf=>?_⟩
 ·have h1:=List.all_eq_true.1 h.1 c hc
  have hcj:j ≠ c:=fun e=>hj (e ▸ hc)
  rw [getD_set_ne true hcj]
  exact h1
 ·have h1:=List.all_eq_true.1 h.2 f hf
  by_cases e:j=f
  ·subst e
   have:(l.setIfInBounds j true).getD j true=true:=by
    simp only [Array.getD]
    split
    ·simp
    ·rfl
   rw [this]
   simp
  ·rw [getD_set_ne true e]
   exact h1
theorem qng {i:Nat} {oi:Oper} {v:Value} {C:List Nat} (hi:ops[i]?=some oi) (hsel:∀ (j:Nat) (o:Oper) cs b,ops[j]?=some o->o.op ≠ .select cs b) (hQ:∀ c a w,Q (.panic c) (a.put oi.dst v) w->Q (.panic c) a w) :
  ∀ (n:Nat) (l:Array Bool) (a:Act) (w:World),waits md m ops l i C=true->(∀ j oj,ops[j]?=some oj->j ≠ i->l.getD j true=false->(∀ e ∈ oj.after,Region.binds md e=true->e.on ≠ i)->oi.apart ops oj=true) ->
   i ∈ Region.ready md ops l->YL P ops oi v a w->wpK P md ops Q m n (l.setIfInBounds i true) (a.put oi.dst v) w->wpK P md ops Q m (n+1) l a w:=by
 intro n
 induction n with
 | zero =>
  intro l a w _ _ hr hy H
  refine .inr fun x hx=>⟨fun h=>(by rw [h] at hr;cases hr),fun j hj=>?_⟩
  by_cases hji:j=i
  ·subst hji
   exact hy.op hi hx fun y hxy=>⟨hxy,qnf 0 _ _ _ _ (hx.trans hxy) H⟩
  ·have q:=ready_mono hj hji
   rw [(H w (Later.refl w)).1] at q
   cases q
 | succ n ih =>
  intro l a w hwt hfree hr hy H
  refine .inr fun x hx=>⟨fun h=>(by rw [h] at hr;cases hr),fun j hj=>?_⟩
  by_cases hji:j=i
  ·subst hji
   exact hy.op hi hx fun y hxy=>⟨hxy,qnf (n+1) _ _ _ _ (hx.trans hxy) H⟩
  ·obtain ⟨hun,oj,hoj,-⟩:=mem_ready.1 hj
   have hjC:j ∉ C:=fun hc=>waits_spec hwt (mem_ready.1 hr).1 j hc hj
   rcases H with H | H
   ·have hju:(l.setIfInBounds i true).getD j true=false:=by rw [getD_set_ne true (Ne.symm hji)];exact hun
    have hjs:=(Array.getElem?_eq_some_iff.1 hoj).1
    have hjm:=tailed_spec H.1 hju hjs
    exact absurd (waits_last hwt hjm hun hjs) hjC
   ·have q:=qix hoj (hfree j oj hoj hji hun (qdy hr hj hoj)) (fun cs b=>hsel i oi cs b hi) (fun cs b=>hsel j oj cs b hoj) hQ hy ((H x hx).2 j (ready_mono hj hji))
    refine wpOp_mono (fun b y hb=>⟨hb.2.1,ih (l.setIfInBounds j true) b y (waits_step hwt hjC) (fun k ok hk hki hku hno=>hfree k ok hk hki ?_ hno) (ready_mono hr (Ne.symm hji)) (hb.1.later (hx.trans hb.2.1)) ?_⟩) q
    ·by_cases hjk:j=k
     ·subst hjk;exact hun
     ·rw [getD_set_ne true hjk] at hku;exact hku
    ·rw [Array.setIfInBounds_comm _ _ hji]
     exact hb.2.2
theorem qcn {l:Array Bool} {a:Act} {w:World} (ht:qrt m ops l=true):∀ {n:Nat},(∀ x,Later w x->wpAny P md ops Q n l a x)->wpK P md ops Q m n l a w
 | 0,h=>h
 | _+1,h=>.inl ⟨ht,h⟩
theorem qmb {l:Array Bool} {a:Act} {w:World} (hr:Region.ready md ops l=[]) (h:∀ x,Later w x->Q .normal a x):∀ n,wpK P md ops Q m n l a w
 | 0=>fun x hx=>⟨hr,h x hx⟩
 | _+1=>.inr fun x hx=>⟨fun _=>h x hx,by rw [hr];simp⟩
theorem qas {id:Nat} {a:Act} {w:World} (m:Nat) (hm:P.follows .mixedOrders=true) (h:wpK P .any ops Q m ops.size (Array.replicate ops.size false) a w.drew):(Code.region id ops true).wp P Q a w:=
 wp_region_any hm (qky _ _ _ _ h)
end
section
variable {P:Program} {Q:Exit->Act->World->Prop} {md:Region.Mode} {m:Nat}
theorem qiz {L r:List Oper} {i:Nat} {oi:Oper} {v:Value} {n:Nat} {l:Array Bool} {a:Act} {w:World} (hi:L.drop i=oi::r) (hs:Region.noSelect L.toArray=true) (hf:Region.free md L.toArray l i=true) (hr:(Region.ready md L.toArray l).contains i=true) (ht:waits md m L.toArray l i (clo md L.toArray l i)=true)
  (hQ:∀ c a w,Q (.panic c) (a.put oi.dst v) w->Q (.panic c) a w) (hw:Region.wanted oi (yielded L.toArray a.tmps)=true) (hy:∀ x,Later w x->(execOp a.eval oi).run P x = .ok (.value v) x)
  (h:wpK P md L.toArray Q m n (l.setIfInBounds i true) (a.put oi.dst v) w):wpK P md L.toArray Q m (n+1) l a w:=
 qng (qav hi) (Region.noSelect_spec hs) hQ n l a w ht (Region.free_spec (qav hi) hf) (by simpa using hr) (Or.inl ⟨hw,fun x hx=>by unfold Oper.quietAt;rw [hy x hx];exact ⟨rfl,rfl⟩⟩) h
theorem qdp {L r:List Oper} {i:Nat} {oi:Oper} {v:Value} {f:FuncId} {args:Array Value} {n:Nat} {l:Array Bool} {a:Act} {w:World} (hi:L.drop i=oi::r) (hs:Region.noSelect L.toArray=true) (hf:Region.free md L.toArray l i=true) (hr:(Region.ready md L.toArray l).contains i=true) (ht:waits md m L.toArray l i (clo md L.toArray l i)=true)
  (hQ:∀ c a w,Q (.panic c) (a.put oi.dst v) w->Q (.panic c) a w) (hw:Region.wanted oi (yielded L.toArray a.tmps)=true) (hy:∀ x,Later w x->(execOp a.eval oi).run P x = .ok (.enter f args) x)
  (hc:∀ x,Later w x->Calls P f args x fun e y=>e = .returned v/\Below x.heap.size x y)
  (h:wpK P md L.toArray Q m n (l.setIfInBounds i true) (a.put oi.dst v) w):wpK P md L.toArray Q m (n+1) l a w:=
 qng (qav hi) (Region.noSelect_spec hs) hQ n l a w ht (Region.free_spec (qav hi) hf) (by simpa using hr) (Or.inl ⟨hw,fun x hx=>by unfold Oper.quietAt;rw [hy x hx];exact ⟨rfl,hc x hx⟩⟩) h
theorem wpK_v (i:Nat) {L r:List Oper} {oi:Oper} {v:Value} {n:Nat} {l:Array Bool} {a:Act} {w:World} (hi:L.drop i=oi::r) (hy:∀ x,Later w x->(execOp a.eval oi).run P x = .ok (.value v) x) (h:wpK P md L.toArray Q m n (l.setIfInBounds i true) (a.put oi.dst v) w) (hs:Region.noSelect L.toArray=true:=by kernel_rfl) (hf:Region.free md L.toArray l i=true:=by kernel_rfl) (hr:(Region.ready md L.toArray l).contains i=true:=by kernel_rfl) (ht:waits md m L.toArray l i (clo md L.toArray l i)=true:=by kernel_rfl) (hQ:∀ c a w,Q (.panic c) (a.put oi.dst v) w->Q (.panic c) a w:=by exact fun _ _ _ h=>h) (hw:Region.wanted oi (yielded L.toArray a.tmps)=true:=by rfl):wpK P md L.toArray Q m (n+1) l a w:=qiz hi hs hf hr ht hQ hw hy h
theorem qpj {L r:List Oper} {i:Nat} {oi:Oper} {n:Nat} {l:Array Bool} {a:Act} {w:World} (hr:Region.ready md L.toArray l=[i]) (hi:L.drop i=oi::r) (hw:Region.wanted oi (yielded L.toArray a.tmps)=true)
  (h:∀ x,Later w x->∃ (v:Value) (y:World),(execOp a.eval oi).run P x = .ok (.value v) y/\Later x y/\wpK P md L.toArray Q m n (l.setIfInBounds i true) (a.put oi.dst v) y):wpK P md L.toArray Q m (n+1) l a w:=by
 refine .inr fun x hx=>?_
 rw [hr]
 refine ⟨fun h=>(by cases h),fun j hj=>?_⟩
 rw [List.mem_singleton] at hj
 subst hj
 obtain ⟨v,y,h1,h2,h3⟩:=h x hx
 unfold wpOp
 rw [qav hi]
 dsimp only
 rw [if_pos hw]
 refine Or.inl ?_
 unfold Oper.wp
 rw [h1]
 exact ⟨h2,h3⟩
theorem qdh {L r:List Oper} {i:Nat} {oi:Oper} {f:FuncId} {args:Array Value} {n:Nat} {l:Array Bool} {a:Act} {w:World} (hr:Region.ready md L.toArray l=[i]) (hi:L.drop i=oi::r) (hw:Region.wanted oi (yielded L.toArray a.tmps)=true)
  (hy:∀ x,Later w x->(execOp a.eval oi).run P x = .ok (.enter f args) x)
  (h:∀ x,Later w x->Calls P f args x fun e y=>∃ v,e = .returned v/\Below x.heap.size x y/\wpK P md L.toArray Q m n (l.setIfInBounds i true) (a.put oi.dst v) y):wpK P md L.toArray Q m (n+1) l a w:=by
 refine .inr fun x hx=>?_
 rw [hr]
 refine ⟨fun h=>(by cases h),fun j hj=>?_⟩
 rw [List.mem_singleton] at hj
 subst hj
 unfold wpOp
 rw [qav hi]
 dsimp only
 rw [if_pos hw]
 refine Or.inl ?_
 unfold Oper.wp
 rw [hy x hx]
 exact (h x hx).mono (by rintro e y ⟨v,rfl,h1,h2⟩;exact ⟨h1,h2⟩)
theorem qja {L r r':List Oper} {i j:Nat} {oi oj:Oper} {f:FuncId} {args:Array Value} {n:Nat} {l:Array Bool} {a:Act} {w:World} {C:Array Value} {t:TypeId}
  (hr:Region.ready md L.toArray l=[i,j]) (hi:L.drop i=oi::r) (hj:L.drop j=oj::r') (hw:Region.wanted oi (yielded L.toArray a.tmps)=true) (hwj:Region.wanted oj (yielded L.toArray a.tmps)=true)
  (hy:∀ x,Later w x->(execOp a.eval oi).run P x = .ok (.enter f args) x) (hz:∀ x,Later w x->(execOp a.eval oj).run P x = .ok (.value (.pointer (some ⟨x.heap.size,0,none⟩))) (x.alloc (.cells C t)))
  (h1:∀ x,Later w x->Calls P f args x fun e y=>∃ v,e = .returned v/\Below x.heap.size x y/\wpK P md L.toArray Q m n (l.setIfInBounds i true) (a.put oi.dst v) y)
  (h2:∀ x,Later w x->wpK P md L.toArray Q m n (l.setIfInBounds j true) (a.put oj.dst (.pointer (some ⟨x.heap.size,0,none⟩))) (x.alloc (.cells C t))):wpK P md L.toArray Q m (n+1) l a w:=by
 refine .inr fun x hx=>?_
 rw [hr]
 refine ⟨fun h=>(by cases h),fun k hk=>?_⟩
 rw [List.mem_cons,List.mem_singleton] at hk
 unfold wpOp
 rcases hk with rfl | rfl
 ·rw [qav hi]
  dsimp only
  rw [if_pos hw]
  refine Or.inl ?_
  unfold Oper.wp
  rw [hy x hx]
  exact (h1 x hx).mono (by rintro e y ⟨v,rfl,q1,q2⟩;exact ⟨q1,q2⟩)
 ·rw [qav hj]
  dsimp only
  rw [if_pos hwj]
  refine Or.inl ?_
  unfold Oper.wp
  rw [hz x hx]
  exact ⟨(Below.refl _ _).alloc (Nat.le_refl _) _,h2 x hx⟩
theorem qnh {ops:Array Oper} {i:Nat} {oi:Oper} {v:Value} (hi:ops[i]?=some oi) (hsel:∀ (j:Nat) (o:Oper) cs b,ops[j]?=some o->o.op ≠ .select cs b) (hQ:∀ c a w,Q (.panic c) (a.put oi.dst v) w->Q (.panic c) a w) :
  ∀ (n:Nat) (l:Array Bool) (a:Act) (w:World),(∀ j oj,ops[j]?=some oj->j ≠ i->l.getD j true=false->(∀ e ∈ oj.after,Region.binds md e=true->e.on ≠ i)->oi.apart ops oj=true) ->
   i ∈ Region.ready md ops l->Region.wanted oi (yielded ops a.tmps)=true->(∀ x,(execOp a.eval oi).run P x = .ok (.value v) x)->wpAny P md ops Q n (l.setIfInBounds i true) (a.put oi.dst v) w->wpAny P md ops Q (n+1) l a w:=by
 intro n
 induction n with
 | zero =>
  intro l a w _ hr hw hy H
  refine ⟨fun h=>(by rw [h] at hr;cases hr),fun j hj=>?_⟩
  by_cases hji:j=i
  ·subst hji
   unfold wpOp
   rw [hi]
   dsimp only
   rw [if_pos hw]
   refine Or.inl ?_
   unfold Oper.wp
   rw [hy w]
   exact H
  ·have q:=ready_mono hj hji
   rw [H.1] at q
   cases q
 | succ n ih =>
  intro l a w hfree hr hw hy H
  refine ⟨fun h=>(by rw [h] at hr;cases hr),fun j hj=>?_⟩
  by_cases hji:j=i
  ·subst hji
   unfold wpOp
   rw [hi]
   dsimp only
   rw [if_pos hw]
   refine Or.inl ?_
   unfold Oper.wp
   rw [hy w]
   exact H
  ·obtain ⟨hun,oj,hoj,-⟩:=mem_ready.1 hj
   have hap:=hfree j oj hoj hji hun (qdy hr hj hoj)
   have h3:=(Oper.apart_spec hap).2.2
   have q:=qma hoj (wpOp_putIf (S:=fun _=>False) hoj hap (fun cs b=>hsel i oi cs b hi) (fun cs b=>hsel j oj cs b hoj) hQ (Or.inl ⟨hw,fun _ hf=>hf.elim⟩) (H.2 j (ready_mono hj hji)))
   refine wpOp_mono ?_ q
   have step:∀ (b:Act) (y:World),execOp b.eval oi=execOp a.eval oi->Region.wanted oi (yielded ops b.tmps)=Region.wanted oi (yielded ops a.tmps)->wpAny P md ops Q n ((l.setIfInBounds i true).setIfInBounds j true) (b.put oi.dst v) y->wpAny P md ops Q (n+1) (l.setIfInBounds j true) b y:=fun b y e1 e2 hk=>by
    refine ih (l.setIfInBounds j true) b y (fun k ok hk hki hku hno=>hfree k ok hk hki ?_ hno) (ready_mono hr (Ne.symm hji)) (by rw [e2];exact hw) (fun x=>by rw [e1];exact hy x) ?_
    ·by_cases hjk:j=k
     ·subst hjk;exact hun
     ·rw [getD_set_ne true hjk] at hku;exact hku
    ·rw [Array.setIfInBounds_comm _ _ hji]
     exact hk
   rintro b y ⟨⟨u,rfl | ⟨f,rfl⟩⟩,-,hk⟩
   ·exact step _ _ (execOp_put oi (fun cs b=>hsel i oi cs b hi) a oj.dst u h3) (wanted_put oi a oj.dst u h3) hk
   ·exact step _ _ (execOp_put oi (fun cs b=>hsel i oi cs b hi) { a with defers:=f::a.defers } oj.dst u h3) (wanted_put oi { a with defers:=f::a.defers } oj.dst u h3) hk
theorem qjb {L r:List Oper} {i:Nat} {oi:Oper} {v:Value} {n:Nat} {l:Array Bool} {a:Act} {w:World} (hi:L.drop i=oi::r) (hs:Region.noSelect L.toArray=true) (hf:Region.free md L.toArray l i=true) (hr:(Region.ready md L.toArray l).contains i=true)
  (hQ:∀ c a w,Q (.panic c) (a.put oi.dst v) w->Q (.panic c) a w) (hw:Region.wanted oi (yielded L.toArray a.tmps)=true) (hy:∀ x,(execOp a.eval oi).run P x = .ok (.value v) x)
  (h:wpAny P md L.toArray Q n (l.setIfInBounds i true) (a.put oi.dst v) w):wpAny P md L.toArray Q (n+1) l a w:=
 qnh (qav hi) (Region.noSelect_spec hs) hQ n l a w (Region.free_spec (qav hi) hf) (by simpa using hr) hw hy h
theorem qmc {L r:List Oper} {i:Nat} {oi:Oper} {f:FuncId} {args:Array Value} {n:Nat} {l:Array Bool} {a:Act} {w:World} (hr:Region.ready md L.toArray l=[i]) (hi:L.drop i=oi::r) (hw:Region.wanted oi (yielded L.toArray a.tmps)=true) (hy:(execOp a.eval oi).run P w = .ok (.enter f args) w)
  (hd:Region.ready md L.toArray (l.setIfInBounds i true)=[]) (h:Calls P f args w fun e y=>∃ v,e = .returned v/\Q .normal (a.put oi.dst v) y):wpAny P md L.toArray Q (n+1) l a w:=by
 refine ⟨fun h=>(by rw [hr] at h;cases h),fun j hj=>?_⟩
 rw [hr,List.mem_singleton] at hj
 subst hj
 unfold wpOp
 rw [qav hi]
 dsimp only
 rw [if_pos hw]
 refine Or.inl ?_
 unfold Oper.wp
 rw [hy]
 refine h.mono ?_
 rintro e y ⟨v,rfl,hq⟩
 cases n with
 | zero=>exact ⟨hd,hq⟩
 | succ n=>exact ⟨fun _=>hq,by rw [hd];simp⟩
theorem qie {L r:List Oper} {i:Nat} {oi:Oper} {n:Nat} {l:Array Bool} {a:Act} {w y:World} (hr:Region.ready md L.toArray l=[i]) (hi:L.drop i=oi::r) (hw:Region.wanted oi (yielded L.toArray a.tmps)=true) (hy:(execOp a.eval oi).run P w = .ok .skip y)
  (h:wpAny P md L.toArray Q n (l.setIfInBounds i true) (a.put oi.dst undef) y):wpAny P md L.toArray Q (n+1) l a w:=by
 refine ⟨fun h=>(by rw [hr] at h;cases h),fun j hj=>?_⟩
 rw [hr,List.mem_singleton] at hj
 subst hj
 unfold wpOp
 rw [qav hi]
 dsimp only
 rw [if_pos hw]
 refine Or.inl ?_
 unfold Oper.wp
 rw [hy]
 exact h
theorem qif {ops:Array Oper} {l:Array Bool} {a:Act} {w:World} (hr:Region.ready md ops l=[]) (h:Q .normal a w):∀ n,wpAny P md ops Q n l a w
 | 0=>⟨hr,h⟩
 | _+1=>⟨fun _=>h,by rw [hr];simp⟩
theorem qdz {L r:List Oper} {i:Nat} {oi:Oper} {n:Nat} {l:Array Bool} {a:Act} {w y:World} (hr:Region.ready md L.toArray l=[i]) (hi:L.drop i=oi::r) (hw:Region.wanted oi (yielded L.toArray a.tmps)=true) (hy:(execOp a.eval oi).run P w = .ok .skip y)
  (hd:Region.ready md L.toArray (l.setIfInBounds i true)=[]) (h:Q .normal (a.put oi.dst undef) y):wpAny P md L.toArray Q (n+1) l a w:=by
 refine ⟨fun h=>(by rw [hr] at h;cases h),fun j hj=>?_⟩
 rw [hr,List.mem_singleton] at hj
 subst hj
 unfold wpOp
 rw [qav hi]
 dsimp only
 rw [if_pos hw]
 refine Or.inl ?_
 unfold Oper.wp
 rw [hy]
 cases n with
 | zero=>exact ⟨hd,h⟩
 | succ n=>exact ⟨fun _=>h,by rw [hd];simp⟩
end
section
variable {P:Program} {ops:Array Oper} {Q:Exit->Act->World->Prop} {md:Region.Mode} {tl:Nat->Bool}
def qhm (tl:Nat->Bool) (ops:Array Oper) (l:Array Bool):Bool:=(List.range ops.size).all fun j=>l.getD j true||tl j
theorem tailedD_spec {l:Array Bool} (h:qhm tl ops l=true) {j:Nat} (hj:l.getD j true=false) (hs:j<ops.size):tl j=true:=by
 have:=List.all_eq_true.1 h j (by simpa using hs)
 rw [hj,Bool.false_or] at this
 exact this
def wpD (P:Program) (md:Region.Mode) (ops:Array Oper) (Q:Exit->Act->World->Prop) (tl:Nat->Bool):Nat->Array Bool->Act->World->Prop
 | 0,l,a,w=>∀ x,Later w x->wpAny P md ops Q 0 l a x
 | n+1,l,a,w=>(qhm tl ops l=true/\∀ x,Later w x->wpAny P md ops Q (n+1) l a x)\/(∀ x,Later w x->(Region.ready md ops l=[]->Q .normal a x) /\
   ∀ i ∈ Region.ready md ops l,wpOp P ops Q i (fun a' y=>Later x y/\wpD P md ops Q tl n (l.setIfInBounds i true) a' y) a x)
theorem qgk:∀ (n:Nat) (l:Array Bool) (a:Act) (w y:World),Later w y->wpD P md ops Q tl n l a w->wpD P md ops Q tl n l a y
 | 0,_,_,_,_,hy,h=>fun x hx=>h x (hy.trans hx)
 | _+1,_,_,_,_,hy,h=>h.imp (fun q=>⟨q.1,fun x hx=>q.2 x (hy.trans hx)⟩) (fun q x hx=>q x (hy.trans hx))
theorem qkz:∀ (n:Nat) (l:Array Bool) (a:Act) (w:World),wpD P md ops Q tl n l a w->wpAny P md ops Q n l a w
 | 0,_,_,w,h=>h w (Later.refl w)
 | n+1,_,_,w,h=>by
  rcases h with h | h
  ·exact h.2 w (Later.refl w)
  ·exact ⟨(h w (Later.refl w)).1,fun i hi=>wpOp_mono (fun a' y hh=>qkz n _ a' y hh.2) ((h w (Later.refl w)).2 i hi)⟩
def qgl (md:Region.Mode) (tl:Nat->Bool) (ops:Array Oper) (l:Array Bool) (i:Nat) (C:List Nat):Bool:=
 (C.all fun c=>!(l.getD c true)&&(((ops[c]?).map fun o=>o.after.any fun e=>Region.binds md e&&((e.on==i)||C.contains e.on))==some true))&&((List.range ops.size).all fun f=>!(tl f)||l.getD f true||C.contains f)
theorem waitsD_spec {l:Array Bool} {i:Nat} {C:List Nat} (h:qgl md tl ops l i C=true) (hi:l.getD i true=false):∀ c ∈ C,c ∉ Region.ready md ops l:=by
 unfold qgl at h
 rw [Bool.and_eq_true] at h
 intro c hc hr
 have h1:=List.all_eq_true.1 h.1 c hc
 rw [Bool.and_eq_true] at h1
 obtain ⟨-,o,ho,hall⟩:=mem_ready.1 hr
 rw [ho] at h1
 simp only [Option.map_some,beq_iff_eq,Option.some.injEq] at h1
 have h2:=h1.2
 rw [Array.any_eq_true'] at h2
 obtain ⟨e,he,q⟩:=h2
 rw [Bool.and_eq_true,Bool.or_eq_true] at q
 have hd:=hall e he q.1
 rcases q.2 with q2 | q2
 ·rw [beq_iff_eq] at q2
  rw [q2] at hd
  exact qfo hi hd
 ·have hm:e.on ∈ C:=by simpa using q2
  have h3:=List.all_eq_true.1 h.1 _ hm
  rw [Bool.and_eq_true,Bool.not_eq_true'] at h3
  exact qfo h3.1 hd
theorem waitsD_last {l:Array Bool} {i f:Nat} {C:List Nat} (h:qgl md tl ops l i C=true) (hf:tl f=true) (hu:l.getD f true=false) (hs:f<ops.size):f ∈ C:=by
 unfold qgl at h
 rw [Bool.and_eq_true] at h
 have:=List.all_eq_true.1 h.2 f (by simpa using hs)
 rw [hu,Bool.or_false,hf] at this
 simpa using this
theorem waitsD_step {l:Array Bool} {i j:Nat} {C:List Nat} (h:qgl md tl ops l i C=true) (hj:j ∉ C):qgl md tl ops (l.setIfInBounds j true) i C=true:=by
 unfold qgl at h ⊢
 rw [Bool.and_eq_true] at h ⊢
 refine ⟨List.all_eq_true.2 fun c hc=>?_,List.all_eq_true.2 fun f hf=>?_⟩
 ·have h1:=List.all_eq_true.1 h.1 c hc
  have hcj:j ≠ c:=fun e=>hj (e ▸ hc)
  rw [getD_set_ne true hcj]
  exact h1
 ·have h1:=List.all_eq_true.1 h.2 f hf
  by_cases e:j=f
  ·subst e
   have:(l.setIfInBounds j true).getD j true=true:=by
    simp only [Array.getD]
    split
    ·simp
    ·rfl
   rw [this]
   simp
  ·rw [getD_set_ne true e]
   exact h1
theorem wpD_first {i:Nat} {oi:Oper} {v:Value} {C:List Nat} (hi:ops[i]?=some oi) (hsel:∀ (j:Nat) (o:Oper) cs b,ops[j]?=some o->o.op ≠ .select cs b) (hQ:∀ c a w,Q (.panic c) (a.put oi.dst v) w->Q (.panic c) a w) :
  ∀ (n:Nat) (l:Array Bool) (a:Act) (w:World),qgl md tl ops l i C=true->(∀ j oj,ops[j]?=some oj->j ≠ i->l.getD j true=false->(∀ e ∈ oj.after,Region.binds md e=true->e.on ≠ i)->oi.apart ops oj=true) ->
   i ∈ Region.ready md ops l->YL P ops oi v a w->wpD P md ops Q tl n (l.setIfInBounds i true) (a.put oi.dst v) w->wpD P md ops Q tl (n+1) l a w:=by
 intro n
 induction n with
 | zero =>
  intro l a w _ _ hr hy H
  refine .inr fun x hx=>⟨fun h=>(by rw [h] at hr;cases hr),fun j hj=>?_⟩
  by_cases hji:j=i
  ·subst hji
   exact hy.op hi hx fun y hxy=>⟨hxy,qgk 0 _ _ _ _ (hx.trans hxy) H⟩
  ·have q:=ready_mono hj hji
   rw [(H w (Later.refl w)).1] at q
   cases q
 | succ n ih =>
  intro l a w hwt hfree hr hy H
  refine .inr fun x hx=>⟨fun h=>(by rw [h] at hr;cases hr),fun j hj=>?_⟩
  by_cases hji:j=i
  ·subst hji
   exact hy.op hi hx fun y hxy=>⟨hxy,qgk (n+1) _ _ _ _ (hx.trans hxy) H⟩
  ·obtain ⟨hun,oj,hoj,-⟩:=mem_ready.1 hj
   have hjC:j ∉ C:=fun hc=>waitsD_spec hwt (mem_ready.1 hr).1 j hc hj
   rcases H with H | H
   ·have hju:(l.setIfInBounds i true).getD j true=false:=by rw [getD_set_ne true (Ne.symm hji)];exact hun
    have hjs:=(Array.getElem?_eq_some_iff.1 hoj).1
    have hjm:=tailedD_spec H.1 hju hjs
    exact absurd (waitsD_last hwt hjm hun hjs) hjC
   ·have q:=qix hoj (hfree j oj hoj hji hun (qdy hr hj hoj)) (fun cs b=>hsel i oi cs b hi) (fun cs b=>hsel j oj cs b hoj) hQ hy ((H x hx).2 j (ready_mono hj hji))
    refine wpOp_mono (fun b y hb=>⟨hb.2.1,ih (l.setIfInBounds j true) b y (waitsD_step hwt hjC) (fun k ok hk hki hku hno=>hfree k ok hk hki ?_ hno) (ready_mono hr (Ne.symm hji)) (hb.1.later (hx.trans hb.2.1)) ?_⟩) q
    ·by_cases hjk:j=k
     ·subst hjk;exact hun
     ·rw [getD_set_ne true hjk] at hku;exact hku
    ·rw [Array.setIfInBounds_comm _ _ hji]
     exact hb.2.2
theorem qmd {l:Array Bool} {a:Act} {w:World} (ht:qhm tl ops l=true):∀ {n:Nat},(∀ x,Later w x->wpAny P md ops Q n l a x)->wpD P md ops Q tl n l a w
 | 0,h=>h
 | _+1,h=>.inl ⟨ht,h⟩
theorem wpD_done {l:Array Bool} {a:Act} {w:World} (hr:Region.ready md ops l=[]) (h:∀ x,Later w x->Q .normal a x):∀ n,wpD P md ops Q tl n l a w
 | 0=>fun x hx=>⟨hr,h x hx⟩
 | _+1=>.inr fun x hx=>⟨fun _=>h x hx,by rw [hr];simp⟩
theorem qgm {id:Nat} {a:Act} {w:World} (tl:Nat->Bool) (hm:P.follows .mixedOrders=true) (h:wpD P .any ops Q tl ops.size (Array.replicate ops.size false) a w.drew):(Code.region id ops true).wp P Q a w:=
 wp_region_any hm (qkz _ _ _ _ h)
end
section
variable {P:Program} {Q:Exit->Act->World->Prop} {md:Region.Mode} {tl:Nat->Bool}
theorem qjc {L r:List Oper} {i:Nat} {oi:Oper} {v:Value} {n:Nat} {l:Array Bool} {a:Act} {w:World} (hi:L.drop i=oi::r) (hs:Region.noSelect L.toArray=true) (hf:Region.free md L.toArray l i=true) (hr:(Region.ready md L.toArray l).contains i=true) (ht:qgl md tl L.toArray l i (clo md L.toArray l i)=true)
  (hQ:∀ c a w,Q (.panic c) (a.put oi.dst v) w->Q (.panic c) a w) (hw:Region.wanted oi (yielded L.toArray a.tmps)=true) (hy:∀ x,Later w x->(execOp a.eval oi).run P x = .ok (.value v) x)
  (h:wpD P md L.toArray Q tl n (l.setIfInBounds i true) (a.put oi.dst v) w):wpD P md L.toArray Q tl (n+1) l a w:=
 wpD_first (qav hi) (Region.noSelect_spec hs) hQ n l a w ht (Region.free_spec (qav hi) hf) (by simpa using hr) (Or.inl ⟨hw,fun x hx=>by unfold Oper.quietAt;rw [hy x hx];exact ⟨rfl,rfl⟩⟩) h
theorem wpD_one {L r:List Oper} {i:Nat} {oi:Oper} {n:Nat} {l:Array Bool} {a:Act} {w:World} (hr:Region.ready md L.toArray l=[i]) (hi:L.drop i=oi::r) (hw:Region.wanted oi (yielded L.toArray a.tmps)=true)
  (h:∀ x,Later w x->∃ (v:Value) (y:World),(execOp a.eval oi).run P x = .ok (.value v) y/\Later x y/\wpD P md L.toArray Q tl n (l.setIfInBounds i true) (a.put oi.dst v) y):wpD P md L.toArray Q tl (n+1) l a w:=by
 refine .inr fun x hx=>?_
 rw [hr]
 refine ⟨fun h=>(by cases h),fun j hj=>?_⟩
 rw [List.mem_singleton] at hj
 subst hj
 obtain ⟨v,y,h1,h2,h3⟩:=h x hx
 unfold wpOp
 rw [qav hi]
 dsimp only
 rw [if_pos hw]
 refine Or.inl ?_
 unfold Oper.wp
 rw [h1]
 exact ⟨h2,h3⟩
theorem qdi {L r:List Oper} {i:Nat} {oi:Oper} {f:FuncId} {args:Array Value} {n:Nat} {l:Array Bool} {a:Act} {w:World} (hr:Region.ready md L.toArray l=[i]) (hi:L.drop i=oi::r) (hw:Region.wanted oi (yielded L.toArray a.tmps)=true)
  (hy:∀ x,Later w x->(execOp a.eval oi).run P x = .ok (.enter f args) x)
  (h:∀ x,Later w x->Calls P f args x fun e y=>∃ v,e = .returned v/\Below x.heap.size x y/\wpD P md L.toArray Q tl n (l.setIfInBounds i true) (a.put oi.dst v) y):wpD P md L.toArray Q tl (n+1) l a w:=by
 refine .inr fun x hx=>?_
 rw [hr]
 refine ⟨fun h=>(by cases h),fun j hj=>?_⟩
 rw [List.mem_singleton] at hj
 subst hj
 unfold wpOp
 rw [qav hi]
 dsimp only
 rw [if_pos hw]
 refine Or.inl ?_
 unfold Oper.wp
 rw [hy x hx]
 exact (h x hx).mono (by rintro e y ⟨v,rfl,h1,h2⟩;exact ⟨h1,h2⟩)
theorem qjd {L r r':List Oper} {i j:Nat} {oi oj:Oper} {f:FuncId} {args:Array Value} {n:Nat} {l:Array Bool} {a:Act} {w:World} {C:Array Value} {t:TypeId}
  (hr:Region.ready md L.toArray l=[i,j]) (hi:L.drop i=oi::r) (hj:L.drop j=oj::r') (hw:Region.wanted oi (yielded L.toArray a.tmps)=true) (hwj:Region.wanted oj (yielded L.toArray a.tmps)=true)
  (hy:∀ x,Later w x->(execOp a.eval oi).run P x = .ok (.enter f args) x) (hz:∀ x,Later w x->(execOp a.eval oj).run P x = .ok (.value (.pointer (some ⟨x.heap.size,0,none⟩))) (x.alloc (.cells C t)))
  (h1:∀ x,Later w x->Calls P f args x fun e y=>∃ v,e = .returned v/\Below x.heap.size x y/\wpD P md L.toArray Q tl n (l.setIfInBounds i true) (a.put oi.dst v) y)
  (h2:∀ x,Later w x->wpD P md L.toArray Q tl n (l.setIfInBounds j true) (a.put oj.dst (.pointer (some ⟨x.heap.size,0,none⟩))) (x.alloc (.cells C t))):wpD P md L.toArray Q tl (n+1) l a w:=by
 refine .inr fun x hx=>?_
 rw [hr]
 refine ⟨fun h=>(by cases h),fun k hk=>?_⟩
 rw [List.mem_cons,List.mem_singleton] at hk
 unfold wpOp
 rcases hk with rfl | rfl
 ·rw [qav hi]
  dsimp only
  rw [if_pos hw]
  refine Or.inl ?_
  unfold Oper.wp
  rw [hy x hx]
  exact (h1 x hx).mono (by rintro e y ⟨v,rfl,q1,q2⟩;exact ⟨q1,q2⟩)
 ·rw [qav hj]
  dsimp only
  rw [if_pos hwj]
  refine Or.inl ?_
  unfold Oper.wp
  rw [hz x hx]
  exact ⟨(Below.refl _ _).alloc (Nat.le_refl _) _,h2 x hx⟩
theorem wpD_purely {ops:Array Oper} {i:Nat} {oi:Oper} {v:Value} (hi:ops[i]?=some oi) (hti:tl i=true) (hsel:∀ (j:Nat) (o:Oper) cs b,ops[j]?=some o->o.op ≠ .select cs b) (hQ:∀ c a w,Q (.panic c) (a.put oi.dst v) w->Q (.panic c) a w) :
  ∀ (n:Nat) (l:Array Bool) (a:Act) (w:World),(∀ j oj,ops[j]?=some oj->j ≠ i->l.getD j true=false->(∀ e ∈ oj.after,Region.binds md e=true->e.on ≠ i)->oi.apart ops oj=true) ->
   i ∈ Region.ready md ops l->Region.wanted oi (yielded ops a.tmps)=true->(∀ x,(execOp a.eval oi).run P x = .ok (.value v) x)->wpD P md ops Q tl n (l.setIfInBounds i true) (a.put oi.dst v) w->wpD P md ops Q tl (n+1) l a w:=by
 have htail:∀ {l:Array Bool},qhm tl ops (l.setIfInBounds i true)=true->qhm tl ops l=true:=fun {l} h=>by
  unfold qhm at h ⊢
  refine List.all_eq_true.2 fun j hj=>?_
  by_cases e:i=j
  ·subst e
   rw [hti,Bool.or_true]
  ·have:=List.all_eq_true.1 h j hj
   rw [getD_set_ne true e] at this
   exact this
 intro n
 induction n with
 | zero =>
  intro l a w _ hr hw hy H
  refine .inr fun x hx=>⟨fun h=>(by rw [h] at hr;cases hr),fun j hj=>?_⟩
  by_cases hji:j=i
  ·subst hji
   have hyl:YL P ops oi v a w:=Or.inl ⟨hw,fun x _=>by unfold Oper.quietAt;rw [hy x];exact ⟨rfl,rfl⟩⟩
   exact hyl.op hi hx fun y hxy=>⟨hxy,qgk 0 _ _ _ _ (hx.trans hxy) H⟩
  ·have q:=ready_mono hj hji
   rw [(H w (Later.refl w)).1] at q
   cases q
 | succ n ih =>
  intro l a w hfree hr hw hy H
  rcases H with H | H
  ·exact .inl ⟨htail H.1,fun x hx=>qnh hi hsel hQ _ l a x hfree hr hw hy (H.2 x hx)⟩
  ·have hyl:YL P ops oi v a w:=Or.inl ⟨hw,fun x _=>by unfold Oper.quietAt;rw [hy x];exact ⟨rfl,rfl⟩⟩
   refine .inr fun x hx=>⟨fun h=>(by rw [h] at hr;cases hr),fun j hj=>?_⟩
   by_cases hji:j=i
   ·subst hji
    exact hyl.op hi hx fun y hxy=>⟨hxy,qgk (n+1) _ _ _ _ (hx.trans hxy) (.inr H)⟩
   ·obtain ⟨hun,oj,hoj,-⟩:=mem_ready.1 hj
    have hap:=hfree j oj hoj hji hun (qdy hr hj hoj)
    have h3:=(Oper.apart_spec hap).2.2
    have q:=qma hoj (wpOp_putIf (S:=fun _=>False) hoj hap (fun cs b=>hsel i oi cs b hi) (fun cs b=>hsel j oj cs b hoj) hQ (Or.inl ⟨hw,fun _ hf=>hf.elim⟩) ((H x hx).2 j (ready_mono hj hji)))
    refine wpOp_mono ?_ q
    have step:∀ (b:Act) (y:World),Later x y->execOp b.eval oi=execOp a.eval oi->Region.wanted oi (yielded ops b.tmps)=Region.wanted oi (yielded ops a.tmps)->wpD P md ops Q tl n ((l.setIfInBounds i true).setIfInBounds j true) (b.put oi.dst v) y->Later x y/\wpD P md ops Q tl (n+1) (l.setIfInBounds j true) b y:=fun b y hl e1 e2 hk=>by
     refine ⟨hl,ih (l.setIfInBounds j true) b y (fun k ok hk hki hku hno=>hfree k ok hk hki ?_ hno) (ready_mono hr (Ne.symm hji)) (by rw [e2];exact hw) (fun x=>by rw [e1];exact hy x) ?_⟩
     ·by_cases hjk:j=k
      ·subst hjk;exact hun
      ·rw [getD_set_ne true hjk] at hku;exact hku
     ·rw [Array.setIfInBounds_comm _ _ hji]
      exact hk
    rintro b y ⟨⟨u,rfl | ⟨f,rfl⟩⟩,-,hl,hk⟩
    ·exact step _ _ hl (execOp_put oi (fun cs b=>hsel i oi cs b hi) a oj.dst u h3) (wanted_put oi a oj.dst u h3) hk
    ·exact step _ _ hl (execOp_put oi (fun cs b=>hsel i oi cs b hi) { a with defers:=f::a.defers } oj.dst u h3) (wanted_put oi { a with defers:=f::a.defers } oj.dst u h3) hk
theorem qcv {L r:List Oper} {i:Nat} {oi:Oper} {v:Value} {n:Nat} {l:Array Bool} {a:Act} {w:World} (hi:L.drop i=oi::r) (hti:tl i=true) (hs:Region.noSelect L.toArray=true) (hf:Region.free md L.toArray l i=true) (hr:(Region.ready md L.toArray l).contains i=true)
  (hQ:∀ c a w,Q (.panic c) (a.put oi.dst v) w->Q (.panic c) a w) (hw:Region.wanted oi (yielded L.toArray a.tmps)=true) (hy:∀ x,(execOp a.eval oi).run P x = .ok (.value v) x)
  (h:wpD P md L.toArray Q tl n (l.setIfInBounds i true) (a.put oi.dst v) w):wpD P md L.toArray Q tl (n+1) l a w:=
 wpD_purely (qav hi) hti (Region.noSelect_spec hs) hQ n l a w (Region.free_spec (qav hi) hf) (by simpa using hr) hw hy h
end
def NInt (ns:List NM):Prop:=∀ n ∈ ns,(Lit.int .i64 n.id).wf=true/\(Lit.int .i64 n.parent).wf=true
def BRow (w:World) (g:Nat) (l:List UInt8):Prop:=
 g<w.heap.size/\∀ j,j<l.length->w.cell? ⟨g,j,none⟩=some (.int .u8 ((l.getD j 0).toNat:Int))/\w.frozen? ⟨g,j,none⟩=false
theorem BRow.set {w:World} {g:Nat} {l:List UInt8} (h:BRow w g l) (i:Nat) (x:UInt8) (hi:i<l.length):BRow (w.setCell ⟨g,i,none⟩ (.int .u8 (x.toNat:Int))) g (l.set i x):=by
 refine ⟨by have:=h.1;simpa [World.setCell] using this,fun j hj=>?_⟩
 rw [List.length_set] at hj
 refine ⟨?_,(World.frozen?_setCell _ _ _ _).trans (h.2 j hj).2⟩
 by_cases e:j=i
 ·subst e
  rw [World.cell?_setCell_same _ _ _ (h.2 j hj).1]
  simp [List.getD,hi]
 ·rw [World.cell?_setCell_other _ _ _ _ (by first | (simp;done) | (simp;omega)),(h.2 j hj).1]
  simp [List.getD,Ne.symm e]
end Go.Proofs.YtoglebfiobofoaaGreatDoor
