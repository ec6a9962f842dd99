/- Texts of ours, laid one behind the other: Dec, StrsB, TreG, TreH, TreI, SlA, SvA, OpenM, TreO, DiskO, LsAo, SvO, SvP, DiskN, DiskC, DiskP, DiskD. -/
import Derived.Test.YtackbhpgdohimaaGreatDoorQk1
import Derived.PlainAid
import Derived.Deep.LoopGhost
import Derived.BigQuiet
import Derived.Deep.QuietTactic
import Derived.Deep.RegionHeld3
import Derived.Deep.DrawnRows
import Derived.Deep.CutRange
import Derived.Deep.Slices
import Derived.Deep.Strs
import Derived.ChangeArms
import Derived.ChangeSame
import Derived.WideShapes
import Derived.OpenShut
/- Dec: . -/
namespace Go.Proofs.YtackbhpgdohimaaGreatDoor
set_option maxRecDepth 100000
set_option maxHeartbeats 16000000
open Go.RowKit
attribute [local go_sem ↓] Go.wp_at_zero Go.wp_at_succ
section
open Go.PlainAid (bt)
def oneB (c:Int):ByteArray:=⟨#[UInt8.ofNat c.toNat]⟩
theorem oneB_size (c:Int):(oneB c).size=1:=rfl
theorem one_byte (W:World) (c:Int) (h0:0<=c) (h1:c<256) :
  (convert 144 9 (.slice (some ⟨W.heap.size,0,none⟩) 1 1)).run Tryz.prog (W.alloc (.cells #[.int .u8 c] 5)) =
   .ok (.string (oneB c)) (W.alloc (.cells #[.int .u8 c] 5)):=by
 have:=run_convert_bytes_back (P:=Tryz.prog) (W.alloc (.cells #[.int .u8 c] 5)) 144 9 5 ⟨W.heap.size,0,none⟩ 1 [UInt8.ofNat c.toNat] Tryz.underlying144 Tryz.underlying5 Tryz.underlying9
  (fun j hj=>by
   have:j=0:=by simp at hj;omega
   subst this;have e:=byte_of c h0 h1;rw [e]
   exact cell_one_new W _ _ 0 _ rfl)
 simpa [oneB] using this
theorem dg_more {n m:Nat} {s:ByteArray} (hm:0<m) (h:W.dg m++s.data.toList=W.dg n) (c:Int) (hc:c=48+((m % 10:Nat):Int)) :
  W.dg (m / 10)++(oneB c++s).data.toList=W.dg n:=by
 rw [<-h,W.dg_step m hm];have e:UInt8.ofNat c.toNat=UInt8.ofNat (48+m % 10):=by rw [hc];congr 1
 unfold oneB;rw [e];simp
end
section
variable {ts:List NR} {g hi k lo:Nat} {T:TM} {v:Value} {w w':World}
def mt (k:Nat):ByteArray:=(⟨#[109]⟩:ByteArray)++⟨(W.decS k).toArray⟩
theorem qbp (n:Nat) (w:World) (hn:0<n) (hm:n<=1000000000) :
  Calls Tryz.prog 78 #[.int .i64 n] w fun e w'=>e = .returned (.string (mt n))/\Below w.heap.size w w':=by
 have h0:decide ((n:Int)<=0)=false:=by simp;omega
 have hl:=W.dg_len 20 n (by omega);go_enter Tryz.func78,Tryz.ntmps78;go_wp2_with fail;go_loopw [0,3] (fun i v wr=>∃ (m:Nat) (s:ByteArray),i = .int .i64 m/\v = .string s/\m<=n/\W.dg m++s.data.toList=W.dg n/\Below w.heap.size w wr) (fun i _ _=>(intOf i).toNat)
 case atStart=>exact ⟨n,⟨#[]⟩,rfl,rfl,zL,by simp,zB⟩
 case round =>
  obtain ⟨m,s,rfl,rfl,hmn,hs,hb⟩:=hrel;have HS:Hid (W.dg m++s.data.toList=W.dg n):=hs;have hsz:s.size<=20:=by have:=congrArg List.length hs;simp at this;have e:s.data.size=s.size:=rfl;omega
  clear hs
  by_cases hz:m=0
  ·subst hz
   have hst:mt n=(⟨#[109]⟩:ByteArray)++s:=by
    have:=HS.out;rw [W.dg_zero,List.nil_append] at this;unfold mt W.decS;rw [if_neg (by omega),<-this]
   have HT:Hid _:=hst;clear hst;go_wp2_with fail;go_ret;refine ⟨?_,hb⟩;rw [HT.out]
   rfl
  ·have hp:0<m:=by omega
   have hB:=hb.size;have ho:=oneB_size (48+(m:Int) % 10);have hcv:=one_byte wr (48+(m:Int) % 10) (by omega) (by omega);go_wp2_with fail;go_roundw
   case rel=>exact ⟨m / 10,_,by go_num,rfl,by omega,dg_more hp HS.out _ (by omega),hb.alloc hB _⟩
   case measure=>simp [intOf];omega
def marks (k n:Nat):List ByteArray:=(List.range n).map fun j=>mt (k+j)
theorem grownBy_setCell (w:World) (g i:Nat) (v:Value):w.grownBy (w.setCell ⟨g,i,none⟩ v) (some g):=
 ⟨rfl,rfl,rfl,by simp [World.setCell],fun k _ hk=>Below.heap_setCell _ _ _ _ (fun e=>hk (by rw [e]))⟩
theorem grownBy_below (h:Below w.heap.size w w'):w.grownBy w' (some g):=⟨h.os,h.tape,h.output,h.size,fun k hk _=>h.block k hk⟩
theorem qbm {a b c:World} (h:a.grownBy b (some g)) (k:b.grownBy c (some g)):a.grownBy c (some g):=
 ⟨k.os.trans h.os,k.tape.trans h.tape,k.output.trans h.output,Nat.le_trans h.size k.size,fun i hi hn=>(k.block i (Nat.lt_of_lt_of_le hi h.size) hn).trans (h.block i hi hn)⟩
def qcn (k n:Nat):List PM:=(List.range n).map fun i=>⟨((k+2*i:Nat):Int),((k+2*i+1:Nat):Int)⟩
theorem qda (k n:Nat):(qcn k n).length=n:=by simp [qcn]
def qet (k:Nat):Bool:=decide (k % 3=0)
def markN (k np:Nat):NM:=⟨(k:Int),((k+1:Nat):Int),mt (k+2),qet (k+3),((k+4:Nat):Int),((k+5:Nat):Int),((k+6:Nat):Int),qcn (k+7) np,((k+7+2*np:Nat):Int)⟩
def qcv (k:Nat):List NR->List NR
 | []=>[]
 | r::rs=>⟨markN k r.nd.pieces.length,r.loc,r.cap⟩::qcv (k+8+2*r.nd.pieces.length) rs
def markK (k:Nat):List NM->Nat
 | []=>k
 | n::ns=>markK (k+8+2*n.pieces.length) ns
theorem qiw (k:Nat) (rs:List NR):(qcv k rs).length=rs.length:=by
 induction rs generalizing k with
 | nil=>rfl
 | cons r rs ih=>simp only [qcv,List.length_cons,ih]
theorem qmi (k:Nat) (ns:List NM) (n:NM):markK k (ns++[n])=markK k ns+8+2*n.pieces.length:=by
 induction ns generalizing k with
 | nil=>rfl
 | cons x ns ih=>simp only [List.cons_append,markK,ih]
theorem markRs_snoc (k:Nat) (rs:List NR) (r:NR):qcv k (rs++[r])=qcv k rs++[⟨markN (markK k (nds rs)) r.nd.pieces.length,r.loc,r.cap⟩]:=by
 induction rs generalizing k with
 | nil=>rfl
 | cons x rs ih=>simp only [List.cons_append,qcv,ih,nds,List.map_cons,markK]
theorem qgs (k:Nat) (ns:List NM):k<=markK k ns/\markK k ns<=k+8*ns.length+2*nsum ns:=by
 induction ns generalizing k with
 | nil=>simp [markK,nsum]
 | cons n ns ih=>have:=ih (k+8+2*n.pieces.length);simp only [markK,nsum,List.length_cons];omega
theorem qpb (k:Nat) (ns:List NM):k+ns.length<=markK k ns:=by
 induction ns generalizing k with
 | nil=>simp [markK]
 | cons n ns ih=>simp only [List.length_cons,markK];have:=ih (k+8+2*n.pieces.length);omega
theorem qmj (k:Nat) (ns:List NM) (i:Nat):markK k (ns.take i)<=markK k ns:=by
 induction ns generalizing k i with
 | nil=>simp
 | cons n ns ih =>
  cases i with
  | zero=>simp only [List.take_zero];exact (qgs k _).1
  | succ i=>simp only [List.take_succ_cons,markK];exact ih _ _
theorem qsh (ts:List NR) (j:Nat) (h:j<ts.length) (i:Nat) (hi:i<9):(ncs ts)[j*9+i]?=(qaj ts[j])[i]?:=flat_get qai ts j h i hi
theorem ncs_set1 (ts:List NR) (i:Nat) (hi:i<ts.length) (f:Nat) (hf:f<9) (r:NR) (v:Value) (h1:(qaj r)[f]?=some v) (h2:∀ q,q<9->q ≠ f->(qaj r)[q]?=(qaj ts[i])[q]?):(ncs ts).set (i*9+f) v=ncs (ts.set i r):=by
 have hlen:(ncs ts).length=ts.length*9:=qes ts;apply List.ext_getElem?;intro n
 by_cases hn:n<ts.length*9
 ·have hs:=qqp qai ts i hi r n hn
  show _=((ts.set i r).flatMap qaj)[n]?
  rw [hs];have hm:=Nat.mod_lt n (show 0<9 by decide);have he:n=n / 9*9+n % 9:=by omega
  by_cases e:n=i*9+f
  ·have e1:n / 9=i:=by omega
   have e2:n % 9=f:=by omega
   rw [if_pos e1,e2,h1,<-e,List.getElem?_set_self (by rw [hlen];exact hn)]
  ·rw [List.getElem?_set_ne (by omega)]
   by_cases e1:n / 9=i
   ·rw [if_pos e1,h2 _ hm (by omega)]
    have:=qsh ts i hi (n % 9) hm;rw [<-this]
    congr 1
    omega
   ·rw [if_neg e1];rfl
 ·rw [List.getElem?_eq_none (by rw [List.length_set,hlen];omega),List.getElem?_eq_none (by rw [qes,List.length_set];omega)]
theorem qpc {rs:List NR} (h:rs.Pairwise fun r s=>NKind.inn r ≠ []->NKind.inn s ≠ []->NKind.loc r ≠ NKind.loc s) (j:Nat) (hj:j<rs.length) (r:NR) (hi:pcs r.nd.pieces ≠ []->pcs rs[j].nd.pieces ≠ []) (hl:r.loc=rs[j].loc):(rs.set j r).Pairwise fun r s=>NKind.inn r ≠ []->NKind.inn s ≠ []->NKind.loc r ≠ NKind.loc s:=by
 have ha:=List.pairwise_iff_getElem.1 h;refine List.pairwise_iff_getElem.2 (fun a b ha' hb' hab h1 h2=>?_);rw [List.length_set] at ha' hb';rw [List.getElem_set] at h1 ⊢;rw [List.getElem_set] at h2 ⊢
 by_cases ea:j=a
 ·subst ea
  rw [if_pos rfl] at h1 ⊢;rw [if_neg (by omega)] at h2 ⊢
  show r.loc ≠ _
  rw [hl];exact ha j b ha' hb' hab (hi h1) h2
 ·rw [if_neg ea] at h1 ⊢
  by_cases eb:j=b
  ·subst eb
   rw [if_pos rfl] at h2 ⊢
   show _ ≠ r.loc
   rw [hl];exact ha a j ha' hb' hab h1 (hi h2)
  ·rw [if_neg eb] at h2 ⊢
   exact ha a b ha' hb' hab h1 h2
theorem TW.cell (h:TW w g ts lo hi) (i:Nat) (hi':i<ts.length) (f:Nat) (hf:f<9) (r:NR) (v:Value) (h1:(qaj r)[f]?=some v) (h2:∀ q,q<9->q ≠ f->(qaj r)[q]?=(qaj ts[i])[q]?)
  (hin:r.nd.pieces=ts[i].nd.pieces) (hloc:r.loc=ts[i].loc):TW (w.setCell ⟨g,i*9+f,none⟩ v) g (ts.set i r) lo hi:=by
 have hout:=h.1.set (i*9+f) v (by rw [NKind.cells_len];show i*9+f<ts.length*9;omega);have e:(NKind.cells ts).set (i*9+f) v=NKind.cells (ts.set i r):=ncs_set1 ts i hi' f hf r v h1 h2;rw [e] at hout;refine ⟨hout,h.glo,h.ghi,fun s hs=>?_,qpc h.apart i hi' r (fun q=>by rw [<-hin];exact q) hloc⟩
 have key:∀ s ∈ ts,NKind.inn s=[]\/∃ b,NKind.loc s=some ⟨b,0,none⟩/\lo<=b/\b<hi/\b ≠ g/\WCells (w.setCell ⟨g,i*9+f,none⟩ v) b (NKind.inn s):=fun s hs=>by
  rcases h.rows s hs with q | ⟨b,e,q1,q2,q3,q4⟩
  ·exact .inl q
  ·exact .inr ⟨b,e,q1,q2,q3,q4.other _ _ q3⟩
 rcases List.mem_or_eq_of_mem_set hs with q | q
 ·exact key s q
 ·subst q
  have:=key ts[i] (List.getElem_mem hi')
  show pcs s.nd.pieces=[]\/∃ b,s.loc=_/\_/\_/\_/\WCells _ b (pcs s.nd.pieces)
  rw [hin,hloc];exact this
theorem TW.cell' (h:TW w g ts lo hi) (i:Nat) (hi':i<ts.length) (r0:NR) (hat:ts[i]=r0) (f:Nat) (hf:f<9) (r:NR) (v:Value) (h1:(qaj r)[f]?=some v) (h2:∀ q,q<9->q ≠ f->(qaj r)[q]?=(qaj r0)[q]?)
  (hin:r.nd.pieces=r0.nd.pieces) (hloc:r.loc=r0.loc):TW (w.setCell ⟨g,i*9+f,none⟩ v) g (ts.set i r) lo hi:=by
 subst hat;exact h.cell i hi' f hf r v h1 h2 hin hloc
theorem TW.pieces {w w2:World} (h:TW w g ts lo hi) (i:Nat) (hi':i<ts.length) (b:Nat) (hb:ts[i].loc=some ⟨b,0,none⟩) (hne:ts[i].nd.pieces ≠ []) (r:NR) (hc:qaj r=qaj ts[i]) (hloc:r.loc=ts[i].loc)
  (hw:WCells w2 b (pcs r.nd.pieces)) (hg:w.grownBy w2 (some b)):TW w2 g (ts.set i r) lo hi:=by
 obtain ⟨b',e',p1,p2,p3,p4⟩:∃ b,ts[i].loc=some ⟨b,0,none⟩/\lo<=b/\b<hi/\b ≠ g/\WCells w b (pcs ts[i].nd.pieces):=by
  rcases h.rows ts[i] (List.getElem_mem hi') with q | q
  ·exact absurd q (qqz hne)
  ·exact q
 have eb:b'=b:=congrArg Addr.block (Option.some.inj (e'.symm.trans hb));subst eb
 have hcs:NKind.cells (ts.set i r)=NKind.cells ts:=by
  show (ts.set i r).flatMap qaj=ts.flatMap qaj
  apply List.ext_getElem?;intro n
  by_cases hn:n<ts.length*9
  ·rw [qqp qai ts i hi' r n hn]
   split
   ·rename_i e
    rw [hc];have:=qsh ts i hi' (n % 9) (Nat.mod_lt n (by decide));rw [<-this]
    show (ncs ts)[_]?=(ncs ts)[_]?
    congr 1
    omega
   ·rfl
  ·rw [List.getElem?_eq_none (by have:=qch qai (ts.set i r);rw [List.length_set] at this;omega),List.getElem?_eq_none (by have:=qch qai ts;omega)]
 refine ⟨by rw [hcs];exact h.1.apart hg (Ne.symm p3),h.glo,h.ghi,fun s hs=>?_,qpc h.apart i hi' r (fun _=>qqz hne) hloc⟩;obtain ⟨j,hj,rfl⟩:=List.mem_iff_getElem.1 hs;rw [List.length_set] at hj;rw [List.getElem_set]
 by_cases e:i=j
 ·rw [if_pos e]
  exact .inr ⟨b',by show r.loc=_;rw [hloc,hb],p1,p2,p3,hw⟩
 ·rw [if_neg e]
  rcases h.rows ts[j] (List.getElem_mem hj) with q | ⟨c,e2,q1,q2,q3,q4⟩
  ·exact .inl q
  ·by_cases hq:NKind.inn ts[j]=[]
   ·exact .inl hq
   ·have hap:ts[i].loc ≠ ts[j].loc:=by
     have ha:=List.pairwise_iff_getElem.1 h.apart
     by_cases hij:i<j
     ·exact ha i j hi' hj hij (qqz hne) hq
     ·exact (ha j i hj hi' (by omega) hq (qqz hne)).symm
    have hcb:c ≠ b':=fun q=>hap (by rw [hb,<-q];exact e2.symm);exact .inr ⟨c,e2,q1,q2,q3,q4.apart hg hcb⟩
theorem qgb (a:Option Addr) (k ca:Nat) (w:World):Calls Tryz.prog 136 #[.slice a 0 ca,.int .i64 k] w fun e w'=>e = .returned (.int .i64 k)/\w'=w:=by
 go_enter Tryz.func136,Tryz.ntmps136;go_wp2_with fail;go_rounds 1
 go_ret;exact ⟨rfl,rfl⟩
theorem qpd (k n j:Nat) (h:j<n):(qcn k n)[j]'(by rw [qda];exact h)=⟨((k+2*j:Nat):Int),((k+2*j+1:Nat):Int)⟩:=by simp [qcn]
theorem markPieceS_any (g:Nat) (ps:List PM) (k ca:Nat) (w:World) (ha:WCells w g (pcs ps)) (hn:k+2*ps.length<=1000000000) :
  Calls Tryz.prog 136 #[.slice (some ⟨g,0,none⟩) ps.length ca,.int .i64 k] w fun e w'=>e = .returned (.int .i64 (k+2*ps.length:Nat))/\WCells w' g (pcs (qcn k ps.length))/\w.grownBy w' (some g):=by
 obtain ⟨n,hnx⟩:∃ n,n=ps.length:=⟨_,rfl⟩;have HN:=zS hnx;rw [<-hnx] at hn ⊢;have HA:=zS ha;clear hnx ha;go_enter Tryz.func136,Tryz.ntmps136;go_wp2_with fail;go_loopw [1,5] (fun c i wr=>∃ (j cc:Nat) (gs:List PM),i = .int .i64 j/\c = .int .i64 cc/\cc<=1000000000/\j<=n/\Sh (cc=k+2*j/\gs.length=n/\gs.take j=(qcn k n).take j)/\Sh (WCells wr g (pcs gs))/\Sh (w.grownBy wr (some g))) (fun _ i _=>n - (intOf i).toNat)
 case atStart=>exact ⟨0,k,ps,rfl,rfl,by omega,Nat.zero_le _,⟨rfl,HN.1.symm,rfl⟩,HA,⟨⟨rfl,rfl,rfl,zL,fun _ _ _=>rfl⟩⟩⟩
 case round =>
  clear HA;obtain ⟨j,c,gs,rfl,rfl,hc9,hj,HG,hw,hgr⟩:=hrel
  by_cases hlt:j<n
  ·have j0:(0:Int)<=(j:Int):=by omega
   have j1:(j:Int)<(n:Int):=by omega
   have hgk:j<gs.length:=by have:=HG.1.2.1;omega
   obtain ⟨c1,e1⟩:∃ c1,c1=c+1:=⟨_,rfl⟩;obtain ⟨c2,e2⟩:∃ c2,c2=c+2:=⟨_,rfl⟩;have HC:=zS (And.intro e1 e2);have i1:(c:Int)+1=(c1:Int):=by omega
   have i2:(c1:Int)+1=(c2:Int):=by omega
   have hb1:c1<=1000000001:=by omega
   have hb2:c2<=1000000000:=by have:=HG.1.1;omega
   obtain ⟨x0,z0⟩:=hw.1.2 (j*2) _ (flat_get qbn gs j hgk 0 (by omega));obtain ⟨x1,z1⟩:=hw.1.2 (j*2+1) _ (flat_get qbn gs j hgk 1 (by omega));have HS:=zS (hw.1.setElem qbn j hgk ⟨(c:Int),(c1:Int)⟩);have HGR:=zS (qed (qed hgr.1 (qam wr g (j*2) (.int .i64 (c:Int)))) (qam _ g (j*2+1) (.int .i64 (c1:Int))));clear e1 e2 hw hgr;go_wp2_with fail;go_roundw
   case rel =>
    refine ⟨j+1,c2,gs.set j ⟨(c:Int),(c1:Int)⟩,by go_num,rfl,hb2,by omega,⟨by have:=HG.1.1;have:=HC.1.2;omega,by rw [List.length_set];exact HG.1.2.1,?_⟩,HS,HGR⟩;have hjm:j<(qcn k n).length:=by rw [qda];exact hlt
    rw [List.take_succ_eq_append_getElem (by rw [List.length_set];exact hgk),List.take_succ_eq_append_getElem hjm,List.take_set_of_le zL,HG.1.2.2,List.getElem_set_self,qpd k n j hlt];have h1:=HG.1.1;have h2:=HC.1.1;rw [h2,h1]
   case measure=>simp [intOf];omega
  ·have e:gs=qcn k n:=by
    have h:=HG.1.2.2;rw [List.take_of_length_le (by have:=HG.1.2.1;omega),List.take_of_length_le (by rw [qda];omega)] at h;exact h
   have hjn:j=n:=by omega
   have HF:Sh (WCells wr g (pcs (qcn k n))):=⟨by rw [<-e];exact hw.1⟩;have HE:Sh (c=k+2*n):=⟨by have:=HG.1.1;omega⟩;have hlt':¬ (j:Int)<(n:Int):=by omega
   clear e hjn hw HG;go_wp2_with fail;go_ret;exact ⟨congrArg (fun x:Int=>Ending.returned (.int .i64 x)) (show (c:Int)=_ by have:=HE.1;omega),HF.1,hgr.1⟩
def MarkNodes (g k:Nat) (rs:List NR) (lo hi:Nat) (w:World) (e:Ending) (w':World):Prop:=e = .returned (.int .i64 (markK k (nds rs):Nat))/\TW w' g (qcv k rs) lo hi/\Turned w w' lo hi
theorem qsi (c:Nat):((c:Int) % 3==0)=qet c:=by
 unfold qet;rw [Bool.eq_iff_iff];simp only [beq_iff_eq,decide_eq_true_eq];omega
theorem qsj (c:Nat):((c:Int).tmod 3==0)=qet c:=by rw [Int.tmod_eq_emod_of_nonneg (by omega)];exact qsi c
theorem markInodeS_any (g:Nat) (rs:List NR) (k ca:Nat) (w:World) (lo hi:Nat) (hm:TW w g rs lo hi) (hk:1<=k) (hn:markK k (nds rs)<=50000000) :
  Calls Tryz.prog 76 #[.slice (some ⟨g,0,none⟩) rs.length ca,.int .i64 k] w fun e w'=>MarkNodes g k rs lo hi w e w':=by
 obtain ⟨n,hnx⟩:∃ n,n=rs.length:=⟨_,rfl⟩;have HN:=zS hnx;have HK:=zS hn
 have hn9:n<=50000000:=by
  have:=qpb k (nds rs);rw [qaf] at this;omega
 have hglo:=hm.glo;have hghi:=hm.ghi;rw [<-hnx];have HA:=zS hm;clear hnx hm hn;go_enter Tryz.func76,Tryz.ntmps76;go_wp2_with fail;go_loopw [1,5] (fun cv iv wr=>∃ (i c:Nat) (ts:List NR),iv = .int .i64 i/\cv = .int .i64 c/\c<=50000000/\1<=c/\i<=n/\Sh (c=markK k (nds (rs.take i))/\ts=qcv k (rs.take i)++rs.drop i)/\Sh (TW wr g ts lo hi/\Turned w wr lo hi)) (fun _ iv _=>n - (intOf iv).toNat)
 case atStart=>exact ⟨0,k,rs,rfl,rfl,by have:=HK.1;have:=(qgs k (nds rs)).1;omega,hk,Nat.zero_le _,⟨rfl,by simp [qcv]⟩,⟨HA.1,Turned.refl _ _ _⟩⟩
 case round =>
  clear HA;obtain ⟨i,c,ts,rfl,rfl,hc9,hc1,hin,HG,HT⟩:=hrel
  by_cases hlt:i<n
  ·have j0:(0:Int)<=(i:Int):=by omega
   have j1:(i:Int)<(n:Int):=by omega
   have hlr:i<rs.length:=by have:=HN.1;omega
   have hml:(qcv k (rs.take i)).length=i:=by rw [qiw,List.length_take];omega
   have htl:ts.length=n:=by rw [HG.1.2,List.length_append,hml,List.length_drop,HN.1];omega
   have hits:i<ts.length:=by omega
   have hat:ts[i]=rs[i]:=by
    simp only [HG.1.2];rw [List.getElem_append_right (by omega)];simp only [hml,Nat.sub_self,List.getElem_drop,Nat.add_zero]
   have hset:ts=ts.set i rs[i]:=by rw [<-hat,List.set_getElem_self]
   have hnext:qcv k (rs.take (i+1))++rs.drop (i+1)=ts.set i ⟨markN c rs[i].nd.pieces.length,rs[i].loc,rs[i].cap⟩:=by
    rw [List.take_succ_eq_append_getElem hlr,markRs_snoc,HG.1.2,<-HG.1.1,List.append_assoc,List.set_append,if_neg (by omega)]
    congr 1
    rw [hml,Nat.sub_self,List.drop_eq_getElem_cons hlr]
    rfl
   have hck:markK k (nds (rs.take (i+1)))=c+8+2*rs[i].nd.pieces.length:=by rw [List.take_succ_eq_append_getElem hlr,qci,qmi,<-HG.1.1]
   have hcb:markK k (nds (rs.take (i+1)))<=50000000:=by
    have:=qmj k (nds rs) (i+1);have e:(nds rs).take (i+1)=nds (rs.take (i+1)):=by unfold nds;rw [List.map_take]
    rw [e] at this;have:=HK.1;omega
   rcases hr:rs[i] with ⟨⟨id,parent,name,dir,schema,quota,len,pieces,writer⟩,loc,cap⟩
   rw [hr] at hat hset hnext hck;dsimp only at hnext hck;obtain ⟨np,hnp⟩:∃ np,np=pieces.length:=⟨_,rfl⟩;rw [<-hnp] at hnext hck;rw [hset] at HT;obtain ⟨c1,e1⟩:∃ c1,c1=c+1:=⟨_,rfl⟩;obtain ⟨c2,e2⟩:∃ c2,c2=c+2:=⟨_,rfl⟩;obtain ⟨c3,e3⟩:∃ c3,c3=c+3:=⟨_,rfl⟩;obtain ⟨c4,e4⟩:∃ c4,c4=c+4:=⟨_,rfl⟩;obtain ⟨c5,e5⟩:∃ c5,c5=c+5:=⟨_,rfl⟩;obtain ⟨c6,e6⟩:∃ c6,c6=c+6:=⟨_,rfl⟩;obtain ⟨c7,e7'⟩:∃ c7,c7=c+7:=⟨_,rfl⟩;obtain ⟨e7,h7⟩:∃ e7,e7=c+7+2*np:=⟨_,rfl⟩;obtain ⟨e8,h8⟩:∃ e8,e8=c+8+2*np:=⟨_,rfl⟩;have i1:(c:Int)+1=(c1:Int):=by omega
   have i2:(c1:Int)+1=(c2:Int):=by omega
   have i3:(c2:Int)+1=(c3:Int):=by omega
   have i4:(c3:Int)+1=(c4:Int):=by omega
   have i5:(c4:Int)+1=(c5:Int):=by omega
   have i6:(c5:Int)+1=(c6:Int):=by omega
   have i7:(c6:Int)+1=(c7:Int):=by omega
   have i8:(e7:Int)+1=(e8:Int):=by omega
   have q1:c1<=60000000:=by omega
   have q2:c2<=60000000:=by omega
   have q3:c3<=60000000:=by omega
   have q4:c4<=60000000:=by omega
   have q5:c5<=60000000:=by omega
   have q6:c6<=60000000:=by omega
   have q7:c7<=60000000:=by omega
   have q8:e7<=60000000:=by omega
   have q9:e8<=50000000:=by omega
   have HMT:=zS (fun W=>qbp c2 W (by omega) (by omega));have HNX:Sh (e8=markK k (nds (rs.take (i+1)))/\ts.set i ⟨⟨(c:Int),(c1:Int),mt c2,qet c3,(c4:Int),(c5:Int),(c6:Int),qcn c7 np,(e7:Int)⟩,loc,cap⟩=qcv k (rs.take (i+1))++rs.drop (i+1)):=⟨by omega,by rw [hnext];unfold markN;rw [e1,e2,e3,e4,e5,e6,e7',h7]⟩;have hd1:=qsi c3;have hd2:=qsj c3;have HE7:=zS (show e7=c7+2*np by omega);generalize mt c2=T2 at *;generalize qet c3=D3 at *;have HNP:=zS hnp;clear hat hset hnext hck hcb hr htl hml e1 e2 e3 e4 e5 e6 e7' h7 h8 hnp HG;obtain ⟨x0,z0⟩:=HT.1.1.1.2 (i*9+0) _ (by rw [NKind.cells_get _ i (by rw [List.length_set];exact hits) 0 (by decide),List.getElem_set_self];rfl);rw [Nat.add_zero] at x0 z0;go_upto_region 5 with fail
   refine qaa (fun W=>TW W g (ts.set i (⟨⟨((c:Nat):Int),parent,name,dir,schema,quota,len,pieces,writer⟩,loc,cap⟩:NR)) lo hi/\Turned w W lo hi) ⟨by
    have q:=HT.1.1.cell' i (by rw [List.length_set];exact hits) (⟨⟨id,parent,name,dir,schema,quota,len,pieces,writer⟩,loc,cap⟩:NR) (List.getElem_set_self _) 0 (by decide) (⟨⟨((c:Nat):Int),parent,name,dir,schema,quota,len,pieces,writer⟩,loc,cap⟩:NR) (.int .i64 (c:Int)) rfl (fun q hq hne=>match q,hq,hne with | 0,_,h=>absurd rfl h | 1,_,_=>rfl | 2,_,_=>rfl | 3,_,_=>rfl | 4,_,_=>rfl | 5,_,_=>rfl | 6,_,_=>rfl | 7,_,_=>rfl | 8,_,_=>rfl | x+9,h,_=>absurd h (by omega)) rfl rfl;rw [List.set_set] at q
    exact q,HT.1.2.trans (Turned.of_grown (qam _ _ _ _) hglo hghi)⟩ ?_
   clear HT x0 z0;rintro Wid ⟨ht,htu⟩;have HT:=zS (And.intro ht htu);clear ht htu;obtain ⟨x1,z1⟩:=HT.1.1.1.2 (i*9+1) _ (by rw [NKind.cells_get _ i (by rw [List.length_set];exact hits) 1 (by decide),List.getElem_set_self];rfl);go_upto_region 7 with fail
   refine qaa (fun W=>TW W g (ts.set i (⟨⟨((c:Nat):Int),((c1:Nat):Int),name,dir,schema,quota,len,pieces,writer⟩,loc,cap⟩:NR)) lo hi/\Turned w W lo hi) ⟨by
    have q:=HT.1.1.cell' i (by rw [List.length_set];exact hits) (⟨⟨((c:Nat):Int),parent,name,dir,schema,quota,len,pieces,writer⟩,loc,cap⟩:NR) (List.getElem_set_self _) 1 (by decide) (⟨⟨((c:Nat):Int),((c1:Nat):Int),name,dir,schema,quota,len,pieces,writer⟩,loc,cap⟩:NR) (.int .i64 (c1:Int)) rfl (fun q hq hne=>match q,hq,hne with | 0,_,_=>rfl | 1,_,h=>absurd rfl h | 2,_,_=>rfl | 3,_,_=>rfl | 4,_,_=>rfl | 5,_,_=>rfl | 6,_,_=>rfl | 7,_,_=>rfl | 8,_,_=>rfl | x+9,h,_=>absurd h (by omega)) rfl rfl;rw [List.set_set] at q
    exact q,HT.1.2.trans (Turned.of_grown (qam _ _ _ _) hglo hghi)⟩ ?_
   clear HT x1 z1;rintro Wparent ⟨ht,htu⟩;have HT:=zS (And.intro ht htu);clear ht htu;go_wp2_with fail;refine (HMT.1 _).mono ?_;rintro e wn ⟨rfl,hbn⟩;replace HT:=zS (show TW wn g (ts.set i (⟨⟨((c:Nat):Int),((c1:Nat):Int),name,dir,schema,quota,len,pieces,writer⟩,loc,cap⟩:NR)) lo hi/\Turned w wn lo hi from ⟨HT.1.1.below hbn,HT.1.2.trans (Turned.of_below hbn lo hi)⟩);clear hbn;obtain ⟨x2,z2⟩:=HT.1.1.1.2 (i*9+2) _ (by rw [NKind.cells_get _ i (by rw [List.length_set];exact hits) 2 (by decide),List.getElem_set_self];rfl);go_upto_region 9 with fail
   refine qaa (fun W=>TW W g (ts.set i (⟨⟨((c:Nat):Int),((c1:Nat):Int),T2,dir,schema,quota,len,pieces,writer⟩,loc,cap⟩:NR)) lo hi/\Turned w W lo hi) ⟨by
    have q:=HT.1.1.cell' i (by rw [List.length_set];exact hits) (⟨⟨((c:Nat):Int),((c1:Nat):Int),name,dir,schema,quota,len,pieces,writer⟩,loc,cap⟩:NR) (List.getElem_set_self _) 2 (by decide) (⟨⟨((c:Nat):Int),((c1:Nat):Int),T2,dir,schema,quota,len,pieces,writer⟩,loc,cap⟩:NR) (.string T2) rfl (fun q hq hne=>match q,hq,hne with | 0,_,_=>rfl | 1,_,_=>rfl | 2,_,h=>absurd rfl h | 3,_,_=>rfl | 4,_,_=>rfl | 5,_,_=>rfl | 6,_,_=>rfl | 7,_,_=>rfl | 8,_,_=>rfl | x+9,h,_=>absurd h (by omega)) rfl rfl;rw [List.set_set] at q
    exact q,HT.1.2.trans (Turned.of_grown (qam _ _ _ _) hglo hghi)⟩ ?_
   clear HT x2 z2;rintro Wname ⟨ht,htu⟩;have HT:=zS (And.intro ht htu);clear ht htu;obtain ⟨x3,z3⟩:=HT.1.1.1.2 (i*9+3) _ (by rw [NKind.cells_get _ i (by rw [List.length_set];exact hits) 3 (by decide),List.getElem_set_self];rfl);go_upto_region 11 with fail
   refine qaa (fun W=>TW W g (ts.set i (⟨⟨((c:Nat):Int),((c1:Nat):Int),T2,D3,schema,quota,len,pieces,writer⟩,loc,cap⟩:NR)) lo hi/\Turned w W lo hi) ⟨by
    have q:=HT.1.1.cell' i (by rw [List.length_set];exact hits) (⟨⟨((c:Nat):Int),((c1:Nat):Int),T2,dir,schema,quota,len,pieces,writer⟩,loc,cap⟩:NR) (List.getElem_set_self _) 3 (by decide) (⟨⟨((c:Nat):Int),((c1:Nat):Int),T2,D3,schema,quota,len,pieces,writer⟩,loc,cap⟩:NR) (.bool D3) rfl (fun q hq hne=>match q,hq,hne with | 0,_,_=>rfl | 1,_,_=>rfl | 2,_,_=>rfl | 3,_,h=>absurd rfl h | 4,_,_=>rfl | 5,_,_=>rfl | 6,_,_=>rfl | 7,_,_=>rfl | 8,_,_=>rfl | x+9,h,_=>absurd h (by omega)) rfl rfl;rw [List.set_set] at q
    exact q,HT.1.2.trans (Turned.of_grown (qam _ _ _ _) hglo hghi)⟩ ?_
   clear HT x3 z3;rintro Wdir ⟨ht,htu⟩;have HT:=zS (And.intro ht htu);clear ht htu;obtain ⟨x4,z4⟩:=HT.1.1.1.2 (i*9+4) _ (by rw [NKind.cells_get _ i (by rw [List.length_set];exact hits) 4 (by decide),List.getElem_set_self];rfl);go_upto_region 13 with fail
   refine qaa (fun W=>TW W g (ts.set i (⟨⟨((c:Nat):Int),((c1:Nat):Int),T2,D3,((c4:Nat):Int),quota,len,pieces,writer⟩,loc,cap⟩:NR)) lo hi/\Turned w W lo hi) ⟨by
    have q:=HT.1.1.cell' i (by rw [List.length_set];exact hits) (⟨⟨((c:Nat):Int),((c1:Nat):Int),T2,D3,schema,quota,len,pieces,writer⟩,loc,cap⟩:NR) (List.getElem_set_self _) 4 (by decide) (⟨⟨((c:Nat):Int),((c1:Nat):Int),T2,D3,((c4:Nat):Int),quota,len,pieces,writer⟩,loc,cap⟩:NR) (.int .i64 (c4:Int)) rfl (fun q hq hne=>match q,hq,hne with | 0,_,_=>rfl | 1,_,_=>rfl | 2,_,_=>rfl | 3,_,_=>rfl | 4,_,h=>absurd rfl h | 5,_,_=>rfl | 6,_,_=>rfl | 7,_,_=>rfl | 8,_,_=>rfl | x+9,h,_=>absurd h (by omega)) rfl rfl;rw [List.set_set] at q
    exact q,HT.1.2.trans (Turned.of_grown (qam _ _ _ _) hglo hghi)⟩ ?_
   clear HT x4 z4;rintro Wschema ⟨ht,htu⟩;have HT:=zS (And.intro ht htu);clear ht htu;obtain ⟨x5,z5⟩:=HT.1.1.1.2 (i*9+5) _ (by rw [NKind.cells_get _ i (by rw [List.length_set];exact hits) 5 (by decide),List.getElem_set_self];rfl);go_upto_region 15 with fail
   refine qaa (fun W=>TW W g (ts.set i (⟨⟨((c:Nat):Int),((c1:Nat):Int),T2,D3,((c4:Nat):Int),((c5:Nat):Int),len,pieces,writer⟩,loc,cap⟩:NR)) lo hi/\Turned w W lo hi) ⟨by
    have q:=HT.1.1.cell' i (by rw [List.length_set];exact hits) (⟨⟨((c:Nat):Int),((c1:Nat):Int),T2,D3,((c4:Nat):Int),quota,len,pieces,writer⟩,loc,cap⟩:NR) (List.getElem_set_self _) 5 (by decide) (⟨⟨((c:Nat):Int),((c1:Nat):Int),T2,D3,((c4:Nat):Int),((c5:Nat):Int),len,pieces,writer⟩,loc,cap⟩:NR) (.int .i64 (c5:Int)) rfl (fun q hq hne=>match q,hq,hne with | 0,_,_=>rfl | 1,_,_=>rfl | 2,_,_=>rfl | 3,_,_=>rfl | 4,_,_=>rfl | 5,_,h=>absurd rfl h | 6,_,_=>rfl | 7,_,_=>rfl | 8,_,_=>rfl | x+9,h,_=>absurd h (by omega)) rfl rfl;rw [List.set_set] at q
    exact q,HT.1.2.trans (Turned.of_grown (qam _ _ _ _) hglo hghi)⟩ ?_
   clear HT x5 z5;rintro Wquota ⟨ht,htu⟩;have HT:=zS (And.intro ht htu);clear ht htu;obtain ⟨x6,z6⟩:=HT.1.1.1.2 (i*9+6) _ (by rw [NKind.cells_get _ i (by rw [List.length_set];exact hits) 6 (by decide),List.getElem_set_self];rfl);go_upto_region 17 with fail
   refine qaa (fun W=>TW W g (ts.set i (⟨⟨((c:Nat):Int),((c1:Nat):Int),T2,D3,((c4:Nat):Int),((c5:Nat):Int),((c6:Nat):Int),pieces,writer⟩,loc,cap⟩:NR)) lo hi/\Turned w W lo hi) ⟨by
    have q:=HT.1.1.cell' i (by rw [List.length_set];exact hits) (⟨⟨((c:Nat):Int),((c1:Nat):Int),T2,D3,((c4:Nat):Int),((c5:Nat):Int),len,pieces,writer⟩,loc,cap⟩:NR) (List.getElem_set_self _) 6 (by decide) (⟨⟨((c:Nat):Int),((c1:Nat):Int),T2,D3,((c4:Nat):Int),((c5:Nat):Int),((c6:Nat):Int),pieces,writer⟩,loc,cap⟩:NR) (.int .i64 (c6:Int)) rfl (fun q hq hne=>match q,hq,hne with | 0,_,_=>rfl | 1,_,_=>rfl | 2,_,_=>rfl | 3,_,_=>rfl | 4,_,_=>rfl | 5,_,_=>rfl | 6,_,h=>absurd rfl h | 7,_,_=>rfl | 8,_,_=>rfl | x+9,h,_=>absurd h (by omega)) rfl rfl;rw [List.set_set] at q
    exact q,HT.1.2.trans (Turned.of_grown (qam _ _ _ _) hglo hghi)⟩ ?_
   clear HT x6 z6;rintro Wlen ⟨ht,htu⟩;have HT:=zS (And.intro ht htu);clear ht htu;have hrow:=HT.1.1.rows (⟨⟨((c:Nat):Int),((c1:Nat):Int),T2,D3,((c4:Nat):Int),((c5:Nat):Int),((c6:Nat):Int),pieces,writer⟩,loc,cap⟩:NR) (List.mem_iff_getElem.2 ⟨i,by rw [List.length_set];exact hits,List.getElem_set_self _⟩);obtain ⟨x7,z7⟩:=HT.1.1.1.2 (i*9+7) _ (by rw [NKind.cells_get _ i (by rw [List.length_set];exact hits) 7 (by decide),List.getElem_set_self];rfl);have hcall:∃ W8,True:=⟨w,trivial⟩;clear hcall;dsimp only at x7;rw [<-HNP.1] at x7
   have HCALL:Sh (Calls Tryz.prog 136 #[.slice loc np cap,.int .i64 c7] Wlen fun e w'=>e = .returned (.int .i64 e7)/\TW w' g (ts.set i (⟨⟨((c:Nat):Int),((c1:Nat):Int),T2,D3,((c4:Nat):Int),((c5:Nat):Int),((c6:Nat):Int),(qcn c7 np),writer⟩,loc,cap⟩:NR)) lo hi/\Turned w w' lo hi):=by
    rcases hrow with hemp | ⟨b,hb,hb1,hb2,hb3,hb4⟩
    ·have hp0:pieces=[]:=pcs_nil.1 hemp
     have hn0:np=0:=by rw [HNP.1,hp0];rfl
     subst hn0;refine ⟨(qgb loc c7 cap Wlen).mono ?_⟩;rintro e w' ⟨rfl,rfl⟩;refine ⟨by rw [HE7.1];rfl,?_,HT.1.2⟩;have:qcn c7 0=pieces:=by rw [hp0];rfl
     rw [this];exact HT.1.1
    ·by_cases hp0:pieces=[]
     ·have hn0:np=0:=by rw [HNP.1,hp0];rfl
      subst hn0;refine ⟨(qgb loc c7 cap Wlen).mono ?_⟩;rintro e w' ⟨rfl,rfl⟩;refine ⟨by rw [HE7.1];rfl,?_,HT.1.2⟩;have:qcn c7 0=pieces:=by rw [hp0];rfl
      rw [this];exact HT.1.1
     ·have hlb:loc=some ⟨b,0,none⟩:=hb
      have hcl:=markPieceS_any b pieces c7 cap Wlen hb4 (by have:=HNP.1;have:=HE7.1;omega);rw [<-HNP.1] at hcl;rw [hlb];refine ⟨hcl.mono ?_⟩;rintro e w' ⟨rfl,hw',hg'⟩;refine ⟨by rw [<-HE7.1],?_,HT.1.2.trans (Turned.of_grown hg' hb1 hb2)⟩;have q:=HT.1.1.pieces i (by rw [List.length_set];exact hits) b (by rw [List.getElem_set_self];exact hlb) (by rw [List.getElem_set_self];exact hp0) (⟨⟨((c:Nat):Int),((c1:Nat):Int),T2,D3,((c4:Nat):Int),((c5:Nat):Int),((c6:Nat):Int),(qcn c7 np),writer⟩,loc,cap⟩:NR) (by rw [List.getElem_set_self];unfold qaj;dsimp only;rw [qda,HNP.1]) (by rw [List.getElem_set_self]) hw' hg';rw [List.set_set,hlb] at q;exact q
   clear hrow HT;go_wp2_with fail;refine HCALL.1.mono ?_;rintro e Wp ⟨rfl,ht,htu⟩;have HT:=zS (And.intro ht htu);clear ht htu HCALL;obtain ⟨x8,z8⟩:=HT.1.1.1.2 (i*9+8) _ (by rw [NKind.cells_get _ i (by rw [List.length_set];exact hits) 8 (by decide),List.getElem_set_self];rfl);go_upto_region 20 with fail
   refine qaa (fun W=>TW W g (ts.set i (⟨⟨((c:Nat):Int),((c1:Nat):Int),T2,D3,((c4:Nat):Int),((c5:Nat):Int),((c6:Nat):Int),(qcn c7 np),((e7:Nat):Int)⟩,loc,cap⟩:NR)) lo hi/\Turned w W lo hi) ⟨by
    have q:=HT.1.1.cell' i (by rw [List.length_set];exact hits) (⟨⟨((c:Nat):Int),((c1:Nat):Int),T2,D3,((c4:Nat):Int),((c5:Nat):Int),((c6:Nat):Int),(qcn c7 np),writer⟩,loc,cap⟩:NR) (List.getElem_set_self _) 8 (by decide) (⟨⟨((c:Nat):Int),((c1:Nat):Int),T2,D3,((c4:Nat):Int),((c5:Nat):Int),((c6:Nat):Int),(qcn c7 np),((e7:Nat):Int)⟩,loc,cap⟩:NR) (.int .i64 (e7:Int)) rfl (fun q hq hne=>match q,hq,hne with | 0,_,_=>rfl | 1,_,_=>rfl | 2,_,_=>rfl | 3,_,_=>rfl | 4,_,_=>rfl | 5,_,_=>rfl | 6,_,_=>rfl | 7,_,_=>rfl | 8,_,h=>absurd rfl h | x+9,h,_=>absurd h (by omega)) rfl rfl;rw [List.set_set] at q
    exact q,HT.1.2.trans (Turned.of_grown (qam _ _ _ _) hglo hghi)⟩ ?_
   clear HT x8 z8;rintro Wwriter ⟨ht,htu⟩;have HT:=zS (And.intro ht htu);clear ht htu;go_wp2_with fail;go_roundw
   case rel=>exact ⟨i+1,e8,ts.set i (⟨⟨((c:Nat):Int),((c1:Nat):Int),T2,D3,((c4:Nat):Int),((c5:Nat):Int),((c6:Nat):Int),(qcn c7 np),((e7:Nat):Int)⟩,loc,cap⟩:NR),by go_num,rfl,q9,by omega,by omega,⟨HNX.1.1,HNX.1.2⟩,HT⟩
   case measure=>simp [intOf];omega
  ·have e:i=n:=by omega
   have hall:rs.take i=rs:=List.take_of_length_le (by have:=HN.1;omega);have hnil:rs.drop i=[]:=List.drop_eq_nil_of_le (by have:=HN.1;omega);have hlt':¬ (i:Int)<(n:Int):=by omega
   have HF:Sh (c=markK k (nds rs)/\ts=qcv k rs):=⟨by have:=HG.1.1;rwa [hall] at this,by have:=HG.1.2;rwa [hall,hnil,List.append_nil] at this⟩;clear hall hnil HG e;go_wp2_with fail;go_ret;exact ⟨by rw [<-HF.1.1];rfl,by rw [<-HF.1.2];exact HT.1.1,HT.1.2⟩
theorem heldPieceS_any (a:Option Addr) (k n ca:Nat) (w:World) (lo hi:Nat) (ha:RRow w a (pcs (qcn k n)) lo hi) (hn:k+2*n<=1000000000) :
  Calls Tryz.prog 137 #[.slice a n ca,.int .i64 k] w fun e w'=>e = .returned (.int .i64 (k+2*n:Nat))/\Below w.heap.size w w':=by
 have HA:=zS ha;clear ha;go_enter Tryz.func137,Tryz.ntmps137;go_wp2_with fail;go_loopw [1,5] (fun c i wr=>∃ (j cc:Nat),i = .int .i64 j/\c = .int .i64 cc/\cc<=1000000000/\j<=n/\Sh (cc=k+2*j)/\Sh (Below w.heap.size w wr)) (fun _ i _=>n - (intOf i).toNat)
 case atStart=>exact ⟨0,k,rfl,rfl,by omega,Nat.zero_le _,⟨rfl⟩,⟨zB⟩⟩
 case round =>
  obtain ⟨j,c,rfl,rfl,hc9,hj,HC,hb⟩:=hrel
  by_cases hlt:j<n
  ·have j0:(0:Int)<=(j:Int):=by omega
   have j1:(j:Int)<(n:Int):=by omega
   obtain ⟨b,off,rfl,lb,hcell⟩:=qmh (HA.1.below hb.1) (by rw [qda];omega);obtain ⟨d0,d1⟩:=hcell j (by rw [qda];exact hlt);rw [qpd k n j hlt] at d0 d1;obtain ⟨c1,e1⟩:∃ c1,c1=c+1:=⟨_,rfl⟩;obtain ⟨c2,e2⟩:∃ c2,c2=c+2:=⟨_,rfl⟩;dsimp only at d0 d1;rw [show k+2*j=c from HC.1.symm] at d0;rw [show k+2*j+1=c1 by rw [e1,HC.1]] at d1;have HCC:Sh (c2=k+2*(j+1)):=⟨by have:=HC.1;omega⟩;have i1:(c:Int)+1=(c1:Int):=by omega
   have i2:(c1:Int)+1=(c2:Int):=by omega
   have hb1:c1<=1000000001:=by omega
   have hb2:c2<=1000000000:=by have:=HC.1;omega
   have h1:((c:Int) != (c:Int))=false:=by simp
   have h2:((c1:Int) != (c1:Int))=false:=by simp
   clear e1 e2 hcell;go_wp2_with fail;go_roundw
   case rel=>exact ⟨j+1,c2,by go_num,rfl,hb2,by omega,HCC,hb⟩
   case measure=>simp [intOf];omega
  ·have HE:Sh (c=k+2*n):=⟨by have:=HC.1;omega⟩
   have hlt':¬ (j:Int)<(n:Int):=by omega
   go_wp2_with fail;go_ret;exact ⟨congrArg (fun x:Int=>Ending.returned (.int .i64 x)) (show (c:Int)=_ by have:=HE.1;omega),hb.1⟩
theorem markRs_at (k:Nat) (rs:List NR) (i:Nat) (h:i<rs.length):(qcv k rs)[i]'(by rw [qiw];exact h)=⟨markN (markK k (nds (rs.take i))) rs[i].nd.pieces.length,rs[i].loc,rs[i].cap⟩:=by
 induction rs generalizing k i with
 | nil=>simp at h
 | cons r rs ih =>
  cases i with
  | zero=>rfl
  | succ i =>
   simp only [qcv,List.getElem_cons_succ,List.take_succ_cons,nds,List.map_cons,markK];exact ih _ i (by simpa using h)
theorem heldInodeS_any (a:Option Addr) (rs:List NR) (k ca:Nat) (w:World) (lo hi:Nat) (hm:TR w a (qcv k rs) lo hi) (hk:1<=k) (hn:markK k (nds rs)<=50000000) :
  Calls Tryz.prog 79 #[.slice a rs.length ca,.int .i64 k] w fun e w'=>e = .returned (.int .i64 (markK k (nds rs):Nat))/\Below w.heap.size w w':=by
 obtain ⟨n,hnx⟩:∃ n,n=rs.length:=⟨_,rfl⟩;have HN:=zS hnx;have HK:=zS hn
 have hn9:n<=50000000:=by
  have:=qpb k (nds rs);rw [qaf] at this;omega
 rw [<-hnx];have HA:=zS hm;obtain ⟨K,hKe⟩:∃ K,K=markK k (nds rs):=⟨_,rfl⟩;rw [<-hKe];have HKE:=zS hKe;clear hnx hm hn hKe;go_enter Tryz.func79,Tryz.ntmps79;go_wp2_with fail;go_loopw [1,5] (fun cv iv wr=>∃ (i c:Nat),iv = .int .i64 i/\cv = .int .i64 c/\c<=50000000/\1<=c/\i<=n/\Sh (c=markK k (nds (rs.take i)))/\Sh (Below w.heap.size w wr)) (fun _ iv _=>n - (intOf iv).toNat)
 case atStart=>exact ⟨0,k,rfl,rfl,by have:=HK.1;have:=(qgs k (nds rs)).1;omega,hk,Nat.zero_le _,⟨rfl⟩,⟨zB⟩⟩
 case round =>
  obtain ⟨i,c,rfl,rfl,hc9,hc1,hin,HC,hbl⟩:=hrel
  by_cases hlt:i<n
  ·have j0:(0:Int)<=(i:Int):=by omega
   have j1:(i:Int)<(n:Int):=by omega
   have hlr:i<rs.length:=by have:=HN.1;omega
   have hmr:i<(qcv k rs).length:=by rw [qiw];exact hlr
   obtain ⟨b,off,rfl,lb,hcell⟩:=TR.nat (HA.1.below hbl.1) (by omega);have hat:=hcell i hmr;have hprow:=((HA.1.below hbl.1).2 _ (List.getElem_mem hmr));rw [markRs_at k rs i hlr,<-HC.1] at hat hprow;have hck:markK k (nds (rs.take (i+1)))=c+8+2*rs[i].nd.pieces.length:=by rw [List.take_succ_eq_append_getElem hlr,qci,qmi,<-HC.1]
   have hcb:markK k (nds (rs.take (i+1)))<=50000000:=by
    have:=qmj k (nds rs) (i+1);have e:(nds rs).take (i+1)=nds (rs.take (i+1)):=by unfold nds;rw [List.map_take]
    rw [e] at this;have:=HK.1;omega
   generalize rs[i].nd.pieces.length=np at *;generalize rs[i].loc=loc at *;generalize rs[i].cap=cap at *;unfold NAt markN at hat;dsimp only at hat;unfold markN at hprow;dsimp only at hprow;rw [qda] at hat;obtain ⟨c1,e1⟩:∃ c1,c1=c+1:=⟨_,rfl⟩;obtain ⟨c2,e2⟩:∃ c2,c2=c+2:=⟨_,rfl⟩;obtain ⟨c3,e3⟩:∃ c3,c3=c+3:=⟨_,rfl⟩;obtain ⟨c4,e4⟩:∃ c4,c4=c+4:=⟨_,rfl⟩;obtain ⟨c5,e5⟩:∃ c5,c5=c+5:=⟨_,rfl⟩;obtain ⟨c6,e6⟩:∃ c6,c6=c+6:=⟨_,rfl⟩;obtain ⟨c7,e7'⟩:∃ c7,c7=c+7:=⟨_,rfl⟩;obtain ⟨e7,h7⟩:∃ e7,e7=c+7+2*np:=⟨_,rfl⟩;obtain ⟨e8,h8⟩:∃ e8,e8=c+8+2*np:=⟨_,rfl⟩;rw [<-e1,<-e2,<-e3,<-e4,<-e5,<-e6,<-h7] at hat;rw [<-e7'] at hprow;have i1:(c:Int)+1=(c1:Int):=by omega
   have i2:(c1:Int)+1=(c2:Int):=by omega
   have i3:(c2:Int)+1=(c3:Int):=by omega
   have i4:(c3:Int)+1=(c4:Int):=by omega
   have i5:(c4:Int)+1=(c5:Int):=by omega
   have i6:(c5:Int)+1=(c6:Int):=by omega
   have i7:(c6:Int)+1=(c7:Int):=by omega
   have i8:(e7:Int)+1=(e8:Int):=by omega
   have q1:c1<=60000000:=by omega
   have q2:c2<=60000000:=by omega
   have q3:c3<=60000000:=by omega
   have q4:c4<=60000000:=by omega
   have q5:c5<=60000000:=by omega
   have q6:c6<=60000000:=by omega
   have q7:c7<=60000000:=by omega
   have q8:e7<=60000000:=by omega
   have q9:e8<=50000000:=by omega
   have q10:¬ (e7:Int)<0:=by omega
   have n0:((c:Int) != (c:Int))=false:=by simp
   have n1:((c1:Int) != (c1:Int))=false:=by simp
   have n4:((c4:Int) != (c4:Int))=false:=by simp
   have n5:((c5:Int) != (c5:Int))=false:=by simp
   have n6:((c6:Int) != (c6:Int))=false:=by simp
   have n7:((e7:Int) != (e7:Int))=false:=by simp
   have HMT:=zS (fun W=>qbp c2 W (by omega) (by omega));have HPS:=zS (fun W (hW:Below wr.heap.size wr W)=>heldPieceS_any loc c7 np cap W lo hi (hprow.below hW) (by omega));rw [show c7+2*np=e7 by omega] at HPS;have HNX:Sh (e8=markK k (nds (rs.take (i+1)))):=⟨by omega⟩;have hd1:=qsi c3;have hd2:=qsj c3;have n2:=qpa (mt c2);have n3:(qet c3 != qet c3)=false:=by cases qet c3 <;> rfl
   generalize mt c2=T2 at *;generalize qet c3=D3 at *;have HAT:=zS hat;obtain ⟨d0,d1,d2,_,_,_,_,_,_⟩:=hat;clear hcell hprow hck hcb e1 e2 e3 e4 e5 e6 e7' h7 h8 HC;go_wp2_with fail
   go_region_held3 (fun w'=>w'.cell? ⟨b,off+i*9+2,none⟩=some (.string T2))
    (first | go_keep | assumption | (rw [hb1.cell (p:=⟨b,off+i*9+2,none⟩) (by exact lb)];assumption))
    ((go_at_call 78;refine (HMT.1 _).mono ?_;rintro e w1 ⟨rfl,hb1⟩))
   all_goals
    have hb2:Below wr.heap.size wr w1:=(Below.drew zB).trans hb1;have HB2:=zS hb2;have k3:=(hb2.cell (p:=⟨b,off+i*9+3,none⟩) lb).trans HAT.1.2.2.2.1;have k4:=(hb2.cell (p:=⟨b,off+i*9+4,none⟩) lb).trans HAT.1.2.2.2.2.1;have k5:=(hb2.cell (p:=⟨b,off+i*9+5,none⟩) lb).trans HAT.1.2.2.2.2.2.1;have k6:=(hb2.cell (p:=⟨b,off+i*9+6,none⟩) lb).trans HAT.1.2.2.2.2.2.2.1;have k7:=(hb2.cell (p:=⟨b,off+i*9+7,none⟩) lb).trans HAT.1.2.2.2.2.2.2.2.1;clear hb1 hb2 d0 d1 d2;go_wp2_with fail;refine (HPS.1 _ HB2.1).mono ?_;rintro e w2 ⟨rfl,hb3⟩;have HB3:=zS (HB2.1.trans (hb3.mono HB2.1.size));have k8:=(HB3.1.cell (p:=⟨b,off+i*9+8,none⟩) lb).trans HAT.1.2.2.2.2.2.2.2.2;have HB4:=zS (hbl.1.trans (HB3.1.mono hbl.1.size));clear hb3 HB2 HB3 k3 k4 k5 k6 k7;go_wp2_with fail;go_roundw
    case rel=>exact ⟨i+1,e8,by go_num,rfl,q9,by omega,by omega,HNX,HB4⟩
    case measure=>simp [intOf];omega
  ·have hall:rs.take i=rs:=List.take_of_length_le (by have:=HN.1;omega)
   have hlt':¬ (i:Int)<(n:Int):=by omega
   have HF:Sh (c=K):=⟨by have:=HC.1;rw [hall] at this;rw [this,HKE.1]⟩;clear hall HC;go_wp2_with fail;go_ret;exact ⟨congrArg (fun x:Nat=>Ending.returned (.int .i64 (x:Int))) HF.1,hbl.1⟩
def THeld (w:World) (v:Value) (k:Nat) (T:TM) (lo hi:Nat):Prop:=∃ (a:Option Addr) (cap:Nat) (rs:List NR),v = .agg #[.slice a rs.length cap,.int .i64 T.next]/\nds rs=T.nodes/\TR w a (qcv k rs) lo hi
theorem THeld.turned {lo hi lo' hi':Nat} (h:THeld w v k T lo hi) (t:Turned w w' lo' hi') (hd:hi<=lo'\/hi'<=lo):THeld w' v k T lo hi:=by
 obtain ⟨a,cap,rs,e,hr,h1⟩:=h;exact ⟨a,cap,rs,e,hr,h1.turned t hd⟩
theorem THeld.below (h:THeld w v k T lo hi) (hb:Below w.heap.size w w'):THeld w' v k T lo hi:=by
 obtain ⟨a,cap,rs,e,hr,h1⟩:=h;exact ⟨a,cap,rs,e,hr,h1.below hb⟩
theorem markInodeS_nil (a:Option Addr) (k ca:Nat) (w:World):Calls Tryz.prog 76 #[.slice a 0 ca,.int .i64 k] w fun e w'=>e = .returned (.int .i64 k)/\w'=w:=by
 go_enter Tryz.func76,Tryz.ntmps76;go_wp2_with fail;go_rounds 1
 go_ret;exact ⟨rfl,rfl⟩
theorem qjo (hf:NFit T) (k:Nat) (hk:k<=1000):markK k T.nodes<=50000000:=by
 have:=(qgs k T.nodes).2;unfold NFit at hf;omega
theorem markTree_val (k:Nat) (h:TAns w v T lo hi) (hf:NFit T) (h1:1<=k) (hk:k<=1000) :
  Calls Tryz.prog 31 #[v,.int .i64 k] w fun e w'=>e = .returned (.int .i64 (markK k T.nodes:Nat))/\THeld w' v k T lo hi/\Turned w w' lo hi:=by
 obtain ⟨a,cap,rs,rfl,hr,hc,h2⟩:=h;have hmf:=qjo hf k hk;rw [<-hr] at hmf;have hsz:∀ W,W=w.alloc (.cells #[.slice a rs.length cap,.int .i64 T.next] 37)->Below w.heap.size w W:=fun W e=>by rw [e];exact zB.alloc zL _
 have HB:=zS (hsz _ rfl)
 have HC:Sh (Calls Tryz.prog 76 #[.slice a rs.length cap,.int .i64 k] (w.alloc (.cells #[.slice a rs.length cap,.int .i64 T.next] 37)) fun e w'=>e = .returned (.int .i64 (markK k T.nodes:Nat))/\TR w' a (qcv k rs) lo hi/\Turned w w' lo hi):=by
  rcases h2 with rfl | ⟨g,rfl,hm⟩
  ·refine ⟨(markInodeS_nil a k cap _).mono ?_⟩
   rintro e w' ⟨rfl,rfl⟩;have hx:T.nodes=[]:=by rw [<-hr];rfl
   exact ⟨by rw [hx];rfl,GR.nil _ _ _ _ _,Turned.of_below HB.1 lo hi⟩
  ·refine ⟨(markInodeS_any g rs k cap _ lo hi (hm.below HB.1) h1 hmf).mono ?_⟩
   rintro e w' ⟨rfl,hw',ht⟩;exact ⟨by rw [hr],hw'.gr,(Turned.of_below HB.1 lo hi).trans ht⟩
 have HR:=zS hr;obtain ⟨m,hme⟩:∃ m,m=markK k T.nodes:=⟨_,rfl⟩;have HME:m<=50000000:=by rw [hme,<-hr];exact hmf
 rw [<-hme] at HC ⊢;obtain ⟨nx,hnx⟩:∃ nx,nx=T.next:=⟨_,rfl⟩;have HNX:=zS hnx;rw [<-hnx] at HC HB ⊢;obtain ⟨n,hnl⟩:∃ n,n=rs.length:=⟨_,rfl⟩;have HNL:=zS hnl;rw [<-hnl] at HC HB ⊢;clear hmf hsz h2 hr hc hf hme hnx hnl;go_enter Tryz.func31,Tryz.ntmps31;go_wp2_with fail;refine HC.1.mono ?_;rintro e w2 ⟨rfl,ht,htu⟩;have HT:=zS (And.intro ht htu);clear ht htu HC;go_wp2_with fail;go_ret;exact ⟨rfl,⟨a,cap,rs,by rw [HNX.1,HNL.1],HR.1,HT.1.1⟩,HT.1.2⟩
theorem heldTree_val (h:THeld w v k T lo hi) (hf:NFit T) (h1:1<=k) (hk:k<=1000) :
  Calls Tryz.prog 34 #[v,.int .i64 k] w fun e w'=>e = .returned (.int .i64 (markK k T.nodes:Nat))/\Below w.heap.size w w':=by
 obtain ⟨a,cap,rs,rfl,hr,hm⟩:=h;have hmf:=qjo hf k hk;rw [<-hr] at hmf;have HB:=zS (show Below w.heap.size w (w.alloc (.cells #[.slice a rs.length cap,.int .i64 T.next] 37)) from zB.alloc zL _);have HC:=zS (heldInodeS_any a rs k cap _ lo hi (hm.below HB.1) h1 hmf);rw [hr] at HC hmf;obtain ⟨m,hme⟩:∃ m,m=markK k T.nodes:=⟨_,rfl⟩;rw [<-hme] at HC hmf ⊢;generalize T.next=nx at *;generalize rs.length=n at *;have hm0:¬ (m:Int)<0:=by omega
 clear hm hr hf hme;go_enter Tryz.func34,Tryz.ntmps34;go_wp2_with fail;refine HC.1.mono ?_;rintro e w2 ⟨rfl,hb⟩;have HB2:=zS (HB.1.trans (hb.mono HB.1.size));clear hb HC;go_wp2_with fail;go_ret;exact ⟨rfl,HB2.1⟩
abbrev trS (v:Value) (T:TM) (lo hi:Nat):Str:=⟨fun W=>TAns W v T lo hi,lo,hi⟩
theorem trS.loc (v:Value) (T:TM) (lo hi:Nat):(trS v T lo hi).Loc:=fun _ _ _ _ h t hd=>TAns.turned h t hd
end
section
open BigFrame
variable {up:Bool} {gr now nx:Int} {cc cm dc dn hi lc ln lo:Nat} {ca da la:Option Addr} {w:World}
theorem SL.join {w0 W W':World} {S S2:List Str} (h:SL w0 W S) (k:SL W W' S2):SL w0 W' (S2++S):=by
 have j:=h.below k.bel;refine ⟨j.bel,fun s hs=>?_,List.pairwise_append.2 ⟨k.apart,h.apart,fun s hs t ht=>.inr (Nat.le_trans (h.is t ht).2.2.2 (k.is s hs).2.2.1)⟩⟩;rcases List.mem_append.1 hs with q | q
 ·obtain ⟨a,b,c,d⟩:=k.is s q
  exact ⟨a,b,Nat.le_trans h.bel.size c,d⟩
 ·exact j.is s q
abbrev SL.p (w0:World) (S:List Str) (W:World):Prop:=SL w0 W S
structure SvM where
 up:Bool
 tree:TM
 groups:Int
 disk:List FM
 leases:List LsM
 now:Int
structure SvAt (w:World) (S:SvM) (tv:Value) (da la:Option Addr) (lo hi:Nat):Prop where
 tr:TSee w tv S.tree lo hi
 ds:FRow w da S.disk
 ls:LsRow w la S.leases
theorem SvAt.below {w w':World} {S:SvM} {tv:Value} (h:SvAt w S tv da la lo hi) (hb:Below w.heap.size w w'):SvAt w' S tv da la lo hi:=⟨h.tr.below hb,h.ds.stays hb,h.ls.stays hb⟩
structure SvFit (S:SvM):Prop where
 tr:NFit S.tree
 ds:S.disk.length<=1048576
 ls:S.leases.length<=1048576
theorem qic {S:SvM} {ca ca' da da' la la':Option Addr} {cm cm' cc cc' dc dc' lc lc' lo hi lo' hi' dn ln:Nat} (h:SvAt w S (.agg #[.slice ca cm cc,.int .i64 nx]) da la lo hi) (k:SvAt w S (.agg #[.slice ca' cm' cc',.int .i64 nx]) da' la' lo' hi') (hf:SvFit S) (hd:dn=S.disk.length) (hl:ln=S.leases.length) :
  Calls Tryz.prog 10 #[.agg #[.bool up,.slice ca cm cc,.int .i64 nx,.int .i64 gr,.slice da dn dc,.slice la ln lc,.int .i64 now],.agg #[.bool up,.slice ca' cm' cc',.int .i64 nx,.int .i64 gr,.slice da' dn dc',.slice la' ln lc',.int .i64 now]] w fun e w'=>e = .returned (.bool true)/\Below w.heap.size w w':=by
 have HT:=zS (fun (W:World) (hb:Below w.heap.size w W)=>eqTree_val (h.tr.below hb) (k.tr.below hb) hf.tr);have HD:=zS (fun (W:World) (hb:Below w.heap.size w W)=>eqDisk_same da da' S.disk dc dc' W (h.ds.stays hb) (k.ds.stays hb) hf.ds);have HL:=zS (fun (W:World) (hb:Below w.heap.size w W)=>eqLeaseS_same la la' S.leases lc lc' W (h.ls.stays hb) (k.ls.stays hb) (by have:=hf.ls;omega));rw [<-hd] at HD;rw [<-hl] at HL;have hup:(up != up)=false:=by simp
 clear h k hf hd hl;have HS:=zS (((SL.start w).new #[.bool up,.slice ca cm cc,.int .i64 nx,.int .i64 gr,.slice da dn dc,.slice la ln lc,.int .i64 now] 43).new #[.bool up,.slice ca' cm' cc',.int .i64 nx,.int .i64 gr,.slice da' dn dc',.slice la' ln lc',.int .i64 now] 43);simp only [World.size_alloc] at HS;obtain ⟨b1,hb1⟩:∃ q,q=w.heap.size:=⟨_,rfl⟩;go_enter Tryz.func10,Tryz.ntmps10;go_upto_region 1 with fail;rw [<-hb1] at HS;refine qaa (SL.p w _) HS.1 ?_;rw [<-hb1];intro W0 hS0;have H:=zS hS0;clear hS0 HS hb1;have x0:=(H.1.bx 1 rfl 0 _ rfl).1;have y0:=(H.1.bx 0 rfl 0 _ rfl).1;have x1:=(H.1.bx 1 rfl 1 _ rfl).1;have y1:=(H.1.bx 0 rfl 1 _ rfl).1;have x2:=(H.1.bx 1 rfl 2 _ rfl).1;have y2:=(H.1.bx 0 rfl 2 _ rfl).1;have x3:=(H.1.bx 1 rfl 3 _ rfl).1;have y3:=(H.1.bx 0 rfl 3 _ rfl).1;have x4:=(H.1.bx 1 rfl 4 _ rfl).1;have y4:=(H.1.bx 0 rfl 4 _ rfl).1;have x5:=(H.1.bx 1 rfl 5 _ rfl).1;have y5:=(H.1.bx 0 rfl 5 _ rfl).1;have x6:=(H.1.bx 1 rfl 6 _ rfl).1;have y6:=(H.1.bx 0 rfl 6 _ rfl).1;go_wp2_with fail;refine (HT.1 _ H.1.bel).mono ?_;rintro e wHT ⟨rfl,hb⟩;replace H:=zS (H.1.below hb);clear hb x0 y0 x1 y1 x2 y2 x3 y3 x4 y4 x5 y5 x6 y6;have x0:=(H.1.bx 1 rfl 0 _ rfl).1;have y0:=(H.1.bx 0 rfl 0 _ rfl).1;have x1:=(H.1.bx 1 rfl 1 _ rfl).1;have y1:=(H.1.bx 0 rfl 1 _ rfl).1;have x2:=(H.1.bx 1 rfl 2 _ rfl).1;have y2:=(H.1.bx 0 rfl 2 _ rfl).1;have x3:=(H.1.bx 1 rfl 3 _ rfl).1;have y3:=(H.1.bx 0 rfl 3 _ rfl).1;have x4:=(H.1.bx 1 rfl 4 _ rfl).1;have y4:=(H.1.bx 0 rfl 4 _ rfl).1;have x5:=(H.1.bx 1 rfl 5 _ rfl).1;have y5:=(H.1.bx 0 rfl 5 _ rfl).1;have x6:=(H.1.bx 1 rfl 6 _ rfl).1;have y6:=(H.1.bx 0 rfl 6 _ rfl).1;go_wp2_with fail;refine (HD.1 _ H.1.bel).mono ?_;rintro e wHD ⟨rfl,hb⟩;replace H:=zS (H.1.below hb)
 clear hb x0 y0 x1 y1 x2 y2 x3 y3 x4 y4 x5 y5 x6 y6;have x0:=(H.1.bx 1 rfl 0 _ rfl).1;have y0:=(H.1.bx 0 rfl 0 _ rfl).1;have x1:=(H.1.bx 1 rfl 1 _ rfl).1;have y1:=(H.1.bx 0 rfl 1 _ rfl).1;have x2:=(H.1.bx 1 rfl 2 _ rfl).1;have y2:=(H.1.bx 0 rfl 2 _ rfl).1;have x3:=(H.1.bx 1 rfl 3 _ rfl).1;have y3:=(H.1.bx 0 rfl 3 _ rfl).1;have x4:=(H.1.bx 1 rfl 4 _ rfl).1;have y4:=(H.1.bx 0 rfl 4 _ rfl).1;have x5:=(H.1.bx 1 rfl 5 _ rfl).1;have y5:=(H.1.bx 0 rfl 5 _ rfl).1;have x6:=(H.1.bx 1 rfl 6 _ rfl).1;have y6:=(H.1.bx 0 rfl 6 _ rfl).1;go_wp2_with fail;refine (HL.1 _ H.1.bel).mono ?_;rintro e wHL ⟨rfl,hb⟩;replace H:=zS (H.1.below hb);clear hb x0 y0 x1 y1 x2 y2 x3 y3 x4 y4 x5 y5 x6 y6;have x0:=(H.1.bx 1 rfl 0 _ rfl).1;have y0:=(H.1.bx 0 rfl 0 _ rfl).1;have x1:=(H.1.bx 1 rfl 1 _ rfl).1;have y1:=(H.1.bx 0 rfl 1 _ rfl).1;have x2:=(H.1.bx 1 rfl 2 _ rfl).1;have y2:=(H.1.bx 0 rfl 2 _ rfl).1;have x3:=(H.1.bx 1 rfl 3 _ rfl).1;have y3:=(H.1.bx 0 rfl 3 _ rfl).1;have x4:=(H.1.bx 1 rfl 4 _ rfl).1;have y4:=(H.1.bx 0 rfl 4 _ rfl).1;have x5:=(H.1.bx 1 rfl 5 _ rfl).1;have y5:=(H.1.bx 0 rfl 5 _ rfl).1;have x6:=(H.1.bx 1 rfl 6 _ rfl).1;have y6:=(H.1.bx 0 rfl 6 _ rfl).1;go_wp2_with fail;go_ret;exact ⟨rfl,H.1.bel⟩
theorem szServer_any {S:SvM} (left:Int) (h:SvAt w S (.agg #[.slice ca cm cc,.int .i64 nx]) da la lo hi) (hd:dn=S.disk.length) (hl:ln=S.leases.length) (hn:NOk S.tree.nodes) (hf:FFit S.disk) (hs:LsFits S.leases) (h0:0<=left) (h1:left<=1048576) :
  Calls Tryz.prog 4 #[.agg #[.bool up,.slice ca cm cc,.int .i64 nx,.int .i64 gr,.slice da dn dc,.slice la ln lc,.int .i64 now],.int .i64 left] w fun e w'=>SzT left (S.tree.nodes.length+nsum S.tree.nodes+(S.disk.length+fsum S.disk)+(S.leases.length+lsSum S.leases)) w e w':=by
 have HT:=zS (fun (W:World) (hb:Below w.heap.size w W)=>szTree_val left (h.tr.below hb) hn h0 h1);have HD:=zS (fun (W:World) (x:Int) (hb:Below w.heap.size w W) (x0:0<=x) (x1:x<=1048576)=>szDisk_any da S.disk dc x W (h.ds.stays hb) hf x0 x1);have HL:=zS (fun (W:World) (x:Int) (hb:Below w.heap.size w W) (x0:0<=x) (x1:x<=1048576)=>szLeaseS_any la S.leases lc x W (h.ls.stays hb) hs x0 x1);rw [<-hd] at HD;rw [<-hl] at HL;obtain ⟨N,hN⟩:∃ q,q=(S.tree.nodes.length+nsum S.tree.nodes+(S.disk.length+fsum S.disk)+(S.leases.length+lsSum S.leases)):=⟨_,rfl⟩;rw [<-hN];rw [<-hd,<-hl] at hN;generalize S.tree.nodes.length+nsum S.tree.nodes=n1 at HT hN;generalize fsum S.disk=n2 at HD hN;generalize lsSum S.leases=n3 at HL hN;clear h hd hl hn hf hs;have HS:=zS ((SL.start w).new #[.bool up,.slice ca cm cc,.int .i64 nx,.int .i64 gr,.slice da dn dc,.slice la ln lc,.int .i64 now] 30);obtain ⟨b1,hb1⟩:∃ q,q=w.heap.size:=⟨_,rfl⟩;go_enter Tryz.func4,Tryz.ntmps4;go_upto_region 1 with fail;rw [<-hb1] at HS;refine qaa (SL.p w _) HS.1 ?_;rw [<-hb1];intro W0 hS0;have H:=zS hS0;clear hS0 HS hb1;obtain ⟨x0,x1,x2,x3,x4,x5,x6⟩:=bwb7 (H.1.at 0 rfl);go_wp2_with fail;refine (HT.1 _ H.1.bel).mono ?_;rintro e w0 ⟨r0,rfl,p0,q0,hb⟩;replace H:=zS (H.1.below hb);clear hb x0 x1 x2 x3 x4 x5 x6
 by_cases c0:r0<0
 ·clear q0
  go_wp2_with fail;go_ret;exact ⟨-1,rfl,by omega,by omega,H.1.bel⟩
 have k0:=q0 (by omega);clear q0;obtain ⟨x0,x1,x2,x3,x4,x5,x6⟩:=bwb7 (H.1.at 0 rfl);go_wp2_with fail;refine (HD.1 _ _ H.1.bel (by omega) (by omega)).mono ?_;rintro e w1 ⟨r1,rfl,p1,q1,hb⟩;replace H:=zS (H.1.below hb);clear hb x0 x1 x2 x3 x4 x5 x6
 by_cases c1:r1<0
 ·clear q1
  go_wp2_with fail;go_ret;exact ⟨-1,rfl,by omega,by omega,H.1.bel⟩
 have k1:=q1 (by omega);clear q1;obtain ⟨x0,x1,x2,x3,x4,x5,x6⟩:=bwb7 (H.1.at 0 rfl);go_wp2_with fail;refine (HL.1 _ _ H.1.bel (by omega) (by omega)).mono ?_;rintro e w2 ⟨r2,rfl,p2,q2,hb⟩;replace H:=zS (H.1.below hb);clear hb x0 x1 x2 x3 x4 x5 x6
 by_cases c2:r2<0
 ·clear q2
  go_wp2_with fail;go_ret;exact ⟨-1,rfl,by omega,by omega,H.1.bel⟩
 have k2:=q2 (by omega);clear q2;go_wp2_with fail;go_ret;exact ⟨r2,rfl,by omega,fun _=>by omega,H.1.bel⟩
def SvTs (S:SvM) (up:Bool) (nx gr now:Int) (dn ln:Nat) (w:World) (e:Ending) (w':World):Prop:=∃ (ca da la:Option Addr) (cm cc dc lc l1 h1 l2 h2 l3 h3:Nat),e = .returned (.agg #[.bool up,.slice ca cm cc,.int .i64 nx,.int .i64 gr,.slice da dn dc,.slice la ln lc,.int .i64 now])/\SL w w' [rwS la (lsS S.leases) l3 h3,rwS da (fcs S.disk) l2 h2,trS (.agg #[.slice ca cm cc,.int .i64 nx]) S.tree l1 h1]/\dn<=dc/\ln<=lc
theorem toServer_sl {S:SvM} (h:SvAt w S (.agg #[.slice ca cm cc,.int .i64 nx]) da la lo hi) (hd:dn=S.disk.length) (hl:ln=S.leases.length) (hx:nx=S.tree.next) (hg:SvFit S) (hf:FFit S.disk) :
  Calls Tryz.prog 7 #[.agg #[.bool up,.slice ca cm cc,.int .i64 nx,.int .i64 gr,.slice da dn dc,.slice la ln lc,.int .i64 now]] w fun e w'=>SvTs S up nx gr now dn ln w e w':=by
 have HT:=zS (fun (W:World) (hb:Below w.heap.size w W)=>toTree_val (h.tr.below hb) hg.tr);have HD:=zS (fun (W:World) (hb:Below w.heap.size w W)=>toDisk_any da S.disk dc W (h.ds.stays hb) hf hg.ds);have HL:=zS (fun (W:World) (hb:Below w.heap.size w W)=>toLeaseS_any la S.leases lc W (h.ls.stays hb) hg.ls);rw [<-hd] at HD;rw [<-hl] at HL;unfold qla at HT;unfold qrk at HD;unfold qqj at HL
 try rw [<-hd] at HD
 try rw [<-hl] at HL
 have HN:=zS hx;clear h hd hl hg hf hx;have HS:=zS ((((SL.start w).new #[.bool up,.slice ca cm cc,.int .i64 nx,.int .i64 gr,.slice da dn dc,.slice la ln lc,.int .i64 now] 30).new #[.bool false,.slice none 0 0,.int .i64 0,.int .i64 0,.slice none 0 0,.slice none 0 0,.int .i64 0] 43).new #[.bool false,.slice none 0 0,.int .i64 0,.int .i64 0,.slice none 0 0,.slice none 0 0,.int .i64 0] 43);simp only [World.size_alloc] at HS;obtain ⟨b1,hb1⟩:∃ q,q=w.heap.size:=⟨_,rfl⟩;go_enter Tryz.func7,Tryz.ntmps7;go_upto_region 2 with fail;rw [<-hb1] at HS;have H:=HS;clear HS;refine qaa (SL.p w _) H.1 ?_;rw [<-hb1];intro W0 hW;replace H:=zS hW;clear hW hb1;obtain ⟨x0,x1,x2,x3,x4,x5,x6⟩:=bwb7 (H.1.at 2 rfl);obtain ⟨y0,z0,y1,z1,y2,z2,y3,z3,y4,z4,y5,z5,y6,z6⟩:=bwc7 (H.1.at 0 rfl);go_upto_region 3 with fail;replace H:=zS ((H.1.put 0 rfl 0 (.bool up) (by simp)));simp only [List.set_cons_zero] at H;clear x0 y0 z0 x1 y1 z1 x2 y2 z2 x3 y3 z3 x4 y4 z4 x5 y5 z5 x6 y6 z6;refine qaa (SL.p w _) H.1 ?_;intro W1 hW;replace H:=zS hW;clear hW;obtain ⟨x0,x1,x2,x3,x4,x5,x6⟩:=bwb7 (H.1.at 2 rfl);obtain ⟨y0,z0,y1,z1,y2,z2,y3,z3,y4,z4,y5,z5,y6,z6⟩:=bwc7 (H.1.at 0 rfl);go_wp2_with fail;refine (HT.1 _ H.1.bel).mono ?_;rintro e w3 ⟨v3,rfl,hA,hb⟩
 obtain ⟨cb,mb,eb,hv3⟩:∃ c m cc,v3 = .agg #[.slice c m cc,.int .i64 nx]:=by
  obtain ⟨c,cc,ts,e,_⟩:=hA;exact ⟨c,_,cc,by rw [e,HN.1]⟩
 subst hv3;replace H:=zS (H.1.add (s:=trS (.agg #[.slice cb mb eb,.int .i64 nx]) S.tree W1.heap.size w3.heap.size) hb hA (trS.loc _ _ _ _) zL zL);obtain ⟨lo3,hlo3⟩:∃ q,q=W1.heap.size:=⟨_,rfl⟩;obtain ⟨hi3,hhi3⟩:∃ q,q=w3.heap.size:=⟨_,rfl⟩;rw [<-hlo3,<-hhi3] at H;clear hA hb hlo3 hhi3 x0 y0 z0 x1 y1 z1 x2 y2 z2 x3 y3 z3 x4 y4 z4 x5 y5 z5 x6 y6 z6;obtain ⟨x0,x1,x2,x3,x4,x5,x6⟩:=bwb7 (H.1.at 3 rfl);obtain ⟨y0,z0,y1,z1,y2,z2,y3,z3,y4,z4,y5,z5,y6,z6⟩:=bwc7 (H.1.at 1 rfl);go_upto_region 4 with fail;replace H:=zS (((H.1.put 1 rfl 1 (.slice cb mb eb) (by simp)).put 1 rfl 2 (.int .i64 nx) (by simp)));simp only [List.set_cons_zero,List.set_cons_succ] at H;clear x0 y0 z0 x1 y1 z1 x2 y2 z2 x3 y3 z3 x4 y4 z4 x5 y5 z5 x6 y6 z6;refine qaa (SL.p w _) H.1 ?_;intro W3 hW;replace H:=zS hW;clear hW;obtain ⟨x0,x1,x2,x3,x4,x5,x6⟩:=bwb7 (H.1.at 3 rfl);obtain ⟨y0,z0,y1,z1,y2,z2,y3,z3,y4,z4,y5,z5,y6,z6⟩:=bwc7 (H.1.at 1 rfl);go_upto_region 5 with fail;replace H:=zS ((H.1.put 1 rfl 3 (.int .i64 gr) (by simp)));simp only [List.set_cons_zero,List.set_cons_succ] at H;clear x0 y0 z0 x1 y1 z1 x2 y2 z2 x3 y3 z3 x4 y4 z4 x5 y5 z5 x6 y6 z6;refine qaa (SL.p w _) H.1 ?_;intro W4 hW;replace H:=zS hW;clear hW;obtain ⟨x0,x1,x2,x3,x4,x5,x6⟩:=bwb7 (H.1.at 3 rfl);obtain ⟨y0,z0,y1,z1,y2,z2,y3,z3,y4,z4,y5,z5,y6,z6⟩:=bwc7 (H.1.at 1 rfl);go_wp2_with fail;refine (HD.1 _ H.1.bel).mono ?_;rintro e w5 ⟨gd,rfl,hg1,hwc,hb⟩;replace H:=zS (H.1.add (s:=rwS (some ⟨gd,0,none⟩) (fcs S.disk) W4.heap.size w5.heap.size) hb (.inr ⟨gd,rfl,hg1,hwc.1,hwc⟩) (rwS.loc _ _ _ _) zL zL);obtain ⟨lo5,hlo5⟩:∃ q,q=W4.heap.size:=⟨_,rfl⟩;obtain ⟨hi5,hhi5⟩:∃ q,q=w5.heap.size:=⟨_,rfl⟩;rw [<-hlo5,<-hhi5] at H;clear hb hg1 hwc hlo5 hhi5 x0 y0 z0 x1 y1 z1 x2 y2 z2 x3 y3 z3 x4 y4 z4 x5 y5 z5 x6 y6 z6;obtain ⟨x0,x1,x2,x3,x4,x5,x6⟩:=bwb7 (H.1.at 4 rfl)
 obtain ⟨y0,z0,y1,z1,y2,z2,y3,z3,y4,z4,y5,z5,y6,z6⟩:=bwc7 (H.1.at 2 rfl);go_upto_region 6 with fail;replace H:=zS ((H.1.put 2 rfl 4 (.slice (some ⟨gd,0,none⟩) dn dn) (by simp)));simp only [List.set_cons_zero,List.set_cons_succ] at H;clear x0 y0 z0 x1 y1 z1 x2 y2 z2 x3 y3 z3 x4 y4 z4 x5 y5 z5 x6 y6 z6;refine qaa (SL.p w _) H.1 ?_;intro W5 hW;replace H:=zS hW;clear hW;obtain ⟨x0,x1,x2,x3,x4,x5,x6⟩:=bwb7 (H.1.at 4 rfl);obtain ⟨y0,z0,y1,z1,y2,z2,y3,z3,y4,z4,y5,z5,y6,z6⟩:=bwc7 (H.1.at 2 rfl);go_wp2_with fail;refine (HL.1 _ H.1.bel).mono ?_;rintro e w6 ⟨gl,rfl,hg1,hwc,hb⟩;replace H:=zS (H.1.add (s:=rwS (some ⟨gl,0,none⟩) (lsS S.leases) W5.heap.size w6.heap.size) hb (.inr ⟨gl,rfl,hg1,hwc.1,hwc⟩) (rwS.loc _ _ _ _) zL zL);obtain ⟨lo6,hlo6⟩:∃ q,q=W5.heap.size:=⟨_,rfl⟩;obtain ⟨hi6,hhi6⟩:∃ q,q=w6.heap.size:=⟨_,rfl⟩;rw [<-hlo6,<-hhi6] at H;clear hb hg1 hwc hlo6 hhi6 x0 y0 z0 x1 y1 z1 x2 y2 z2 x3 y3 z3 x4 y4 z4 x5 y5 z5 x6 y6 z6;obtain ⟨x0,x1,x2,x3,x4,x5,x6⟩:=bwb7 (H.1.at 5 rfl);obtain ⟨y0,z0,y1,z1,y2,z2,y3,z3,y4,z4,y5,z5,y6,z6⟩:=bwc7 (H.1.at 3 rfl);go_upto_region 7 with fail;replace H:=zS ((H.1.put 3 rfl 5 (.slice (some ⟨gl,0,none⟩) ln ln) (by simp)));simp only [List.set_cons_zero,List.set_cons_succ] at H;clear x0 y0 z0 x1 y1 z1 x2 y2 z2 x3 y3 z3 x4 y4 z4 x5 y5 z5 x6 y6 z6;refine qaa (SL.p w _) H.1 ?_;intro W6 hW;replace H:=zS hW;clear hW;obtain ⟨x0,x1,x2,x3,x4,x5,x6⟩:=bwb7 (H.1.at 5 rfl);obtain ⟨y0,z0,y1,z1,y2,z2,y3,z3,y4,z4,y5,z5,y6,z6⟩:=bwc7 (H.1.at 3 rfl);go_upto_region 8 with fail;replace H:=zS ((H.1.put 3 rfl 6 (.int .i64 now) (by simp)));simp only [List.set_cons_zero,List.set_cons_succ] at H;clear x0 y0 z0 x1 y1 z1 x2 y2 z2 x3 y3 z3 x4 y4 z4 x5 y5 z5 x6 y6 z6;refine qaa (SL.p w _) H.1 ?_;intro W7 hW;replace H:=zS hW;clear hW;obtain ⟨x0,x1,x2,x3,x4,x5,x6⟩:=bwb7 (H.1.at 5 rfl)
 obtain ⟨y0,z0,y1,z1,y2,z2,y3,z3,y4,z4,y5,z5,y6,z6⟩:=bwc7 (H.1.at 3 rfl);obtain ⟨r0,s0,r1,s1,r2,s2,r3,s3,r4,s4,r5,s5,r6,s6⟩:=bwc7 (H.1.at 4 rfl);have HE:=zS ((((((((H.1.put 4 rfl 0 (.bool up) (by simp)).put 4 rfl 1 (.slice cb mb eb) (by simp)).put 4 rfl 2 (.int .i64 nx) (by simp)).put 4 rfl 3 (.int .i64 gr) (by simp)).put 4 rfl 4 (.slice (some ⟨gd,0,none⟩) dn dn) (by simp)).put 4 rfl 5 (.slice (some ⟨gl,0,none⟩) ln ln) (by simp)).put 4 rfl 6 (.int .i64 now) (by simp)))
 try simp only [List.set_cons_zero,List.set_cons_succ] at HE
 go_wp2_with fail;refine bodyPost_ret (v:=.agg #[.bool up,.slice cb mb eb,.int .i64 nx,.int .i64 gr,.slice (some ⟨gd,0,none⟩) dn dn,.slice (some ⟨gl,0,none⟩) ln ln,.int .i64 now]) (by simp [results,Tryz.results7,go_sem,r0,r1,r2,r3,r4,r5,r6]) rfl ?_;exact ⟨cb,some ⟨gd,0,none⟩,some ⟨gl,0,none⟩,mb,eb,dn,ln,lo3,hi3,lo5,hi5,lo6,hi6,rfl,⟨HE.1.bel,fun s hs=>HE.1.is s ((List.sublist_append_left [rwS (some ⟨gl,0,none⟩) (lsS S.leases) lo6 hi6,rwS (some ⟨gd,0,none⟩) (fcs S.disk) lo5 hi5,trS (.agg #[.slice cb mb eb,.int .i64 nx]) S.tree lo3 hi3] _).subset hs),HE.1.apart.sublist (List.sublist_append_left [rwS (some ⟨gl,0,none⟩) (lsS S.leases) lo6 hi6,rwS (some ⟨gd,0,none⟩) (fcs S.disk) lo5 hi5,trS (.agg #[.slice cb mb eb,.int .i64 nx]) S.tree lo3 hi3] _)⟩,zL,zL⟩
end
section
open Go.Deep Go.ChangeShapes Go.WideShapes
theorem qkn:Tryz.prog.cellsOf 3 = 1:=by kernel_rfl
theorem cells_str:Tryz.prog.cellsOf 9 = 1:=by kernel_rfl
theorem qko {α:Type} [Inhabited α] {en:α->List Value} {sz:Nat} (hsz:∀ x,(en x).length=sz) (hp0:0<sz) {W:World} {ad:Addr} {len:Nat} {Pr:α->Prop}
  (each:∀ i,i<len->∃ f:α,(∀ r v,(en f)[r]?=some v->W.cell? (ad.add (i*sz+r))=some v)/\Pr f):∃ xs:List α,xs.length=len/\CRow W (some ad) (xs.flatMap en)/\∀ f ∈ xs,Pr f:=by
 obtain ⟨F,hF⟩:=choose_lt each;have hlen:((List.range len).map F).length=len:=by simp
 have hget:∀ j (hj:j<((List.range len).map F).length),((List.range len).map F)[j]=F j:=by intro j hj;simp
 refine ⟨(List.range len).map F,hlen,?_,?_⟩
 ·intro hp
  rw [qch hsz,hlen] at hp;have hl0:0<len:=Nat.pos_of_ne_zero fun e=>by rw [e] at hp;simp at hp
  have h00:∃ v,(en (F 0))[0]?=some v:=by
   have:0<(en (F 0)).length:=by rw [hsz];exact hp0
   exact ⟨_,List.getElem?_eq_getElem this⟩
  obtain ⟨v0,hv0⟩:=h00;have c0:=(hF 0 hl0).1 0 v0 hv0
  have hs:ad.spot=none:=by
   have:=World.cell?_spot c0
   simpa [Addr.add] using this
  obtain ⟨b,off,spot⟩:=ad;simp only at hs;subst hs;have hadd:∀ i,(⟨b,off,none⟩:Addr).add i=⟨b,off+i,none⟩:=by intro i;cases i <;> simp [Addr.add]
  refine ⟨b,off,rfl,?_,fun i v hv=>?_⟩
  ·by_cases hb:b<W.heap.size
   ·exact hb
   ·unfold World.cell? at c0
    rw [hadd,Array.getElem?_eq_none (by simpa using hb)] at c0;simp at c0
  ·have hi:i<(((List.range len).map F).flatMap en).length:=(List.getElem?_eq_some_iff.1 hv).1
   rw [qch hsz,hlen] at hi;have hq:i / sz<len:=Nat.div_lt_of_lt_mul (by rwa [Nat.mul_comm] at hi);have hr:=Nat.mod_lt i hp0;have ei:i=i / sz*sz+i % sz:=by rw [Nat.mul_comm];exact (Nat.div_add_mod i sz).symm
   have hj:i / sz<((List.range len).map F).length:=by rw [hlen];exact hq
   have l1:=flat_get hsz ((List.range len).map F) (i / sz) hj (i % sz) hr;rw [hget _ hj,<-ei] at l1;have:=(hF (i / sz) hq).1 (i % sz) v (by rw [<-l1];exact hv);rw [<-ei,hadd] at this;exact this
 ·intro f hf
  obtain ⟨j,hj,rfl⟩:=List.mem_map.1 hf;exact (hF j (by simpa using hj)).2
section
variable {P:Program} {w:World} {base:Nat} {spare:Nat->Bool} {held:Bool} {H:Type} {enc:TypeId × Value->H}
theorem trod_nine {t:TypeId} {f0 f1 f2 f3 f4 f5 f6 f7 f8:Field} {fuel:Nat} {cs:List Value} {x:DataW H × List MemPlace} (ht:P.underlying t=some (.struct #[f0,f1,f2,f3,f4,f5,f6,f7,f8])) (h:DataW.trod enc P w base spare held fuel t cs=some x) :
  ∃ y0 y1 y2 y3 y4 y5 y6 y7 y8 n,cs.length=P.cellsOf t /\
   DataW.trod enc P w base spare held n f0.type ((cs.drop f0.offset).take (P.cellsOf f0.type))=some y0 /\
   DataW.trod enc P w base spare held n f1.type ((cs.drop f1.offset).take (P.cellsOf f1.type))=some y1 /\
   DataW.trod enc P w base spare held n f2.type ((cs.drop f2.offset).take (P.cellsOf f2.type))=some y2 /\
   DataW.trod enc P w base spare held n f3.type ((cs.drop f3.offset).take (P.cellsOf f3.type))=some y3 /\
   DataW.trod enc P w base spare held n f4.type ((cs.drop f4.offset).take (P.cellsOf f4.type))=some y4 /\
   DataW.trod enc P w base spare held n f5.type ((cs.drop f5.offset).take (P.cellsOf f5.type))=some y5 /\
   DataW.trod enc P w base spare held n f6.type ((cs.drop f6.offset).take (P.cellsOf f6.type))=some y6 /\
   DataW.trod enc P w base spare held n f7.type ((cs.drop f7.offset).take (P.cellsOf f7.type))=some y7 /\
   DataW.trod enc P w base spare held n f8.type ((cs.drop f8.offset).take (P.cellsOf f8.type))=some y8:=by
 obtain ⟨xs,n,_,rfl,hl,hlen,hf⟩:=DataW.trod_struct ht h
 match xs,hlen with
 | [y0,y1,y2,y3,y4,y5,y6,y7,y8],_=>exact ⟨y0,y1,y2,y3,y4,y5,y6,y7,y8,n,hl,by simpa using hf 0 f0 rfl,by simpa using hf 1 f1 rfl,by simpa using hf 2 f2 rfl,by simpa using hf 3 f3 rfl,by simpa using hf 4 f4 rfl,by simpa using hf 5 f5 rfl,by simpa using hf 6 f6 rfl,by simpa using hf 7 f7 rfl,by simpa using hf 8 f8 rfl⟩
end
theorem cells_piece:Tryz.prog.cellsOf 234 = 2:=by kernel_rfl
theorem cells_pieces:Tryz.prog.cellsOf 126 = 1:=by kernel_rfl
theorem cells_node:Tryz.prog.cellsOf 128 = 9:=by kernel_rfl
theorem cells_nodes:Tryz.prog.cellsOf 22 = 1:=by kernel_rfl
theorem cells_bool:Tryz.prog.cellsOf 4 = 1:=by kernel_rfl
theorem open_pieces {H:Type} {enc:TypeId × Value->H} {W:World} {base:Nat} {spare:Nat->Bool} {held:Bool} {fuel:Nat} {cs:List Value} {x:DataW H × List MemPlace}
  (h:DataW.trod enc Tryz.prog W base spare held fuel 126 cs=some x):∃ a ps cap,cs=[.slice a (List.length (α:=PM) ps) cap]/\CRow W a (pcs ps)/\ps.length<=9223372036854775807:=by
 rcases open_slice Tryz.underlying126 h with ⟨rfl,_⟩ | ⟨ad,len,cap,m,n,D,Pl,rfl,hb,hl,hm,hmm,_,hx⟩
 ·exact ⟨none,[],0,rfl,fun h=>by simp [pcs] at h,by simp⟩
 ·have hlm:len<=m:=by rw [hmm];split <;> omega
  have each:∀ i,i<len->∃ f:PM,(∀ r v,(qei f)[r]?=some v->W.cell? (ad.add (i*2+r))=some v)/\True:=by
   intro i hi;obtain ⟨cs',h1,h2⟩:=hx i (by omega);rw [cells_piece] at h1;obtain ⟨_,hlen,hcell⟩:=World.cells?_some h1;obtain ⟨y0,y1,k,_,_,g0,g1⟩:=trod_struct2 Tryz.underlying234 h2
   match cs',hlen with
   | [v0,v1],_ =>
    simp only [qkn,List.drop_zero,List.drop_succ_cons,List.take_succ_cons,List.take_zero] at g0 g1;obtain ⟨q0,e0,_,_⟩:=DataW.trod_int Tryz.underlying3 g0;obtain ⟨q1,e1,_,_⟩:=DataW.trod_int Tryz.underlying3 g1;have c0:=hcell 0 (by omega);have c1:=hcell 1 (by omega);rw [add_add] at c0 c1;simp only [List.cons.injEq,and_true] at e0 e1;subst e0 e1;refine ⟨⟨q0,q1⟩,fun r v hv=>?_,trivial⟩
    match r,hv with
    | 0,hv=>simp [qei] at hv;subst hv;simpa using c0
    | 1,hv=>simp [qei] at hv;subst hv;simpa using c1
  obtain ⟨xs,hxl,hrow,_⟩:=qko qbn (by decide) each;exact ⟨some ad,xs,cap,by rw [hxl],hrow,by rw [hxl];unfold maxLen at hm;omega⟩
theorem open_nodes {H:Type} {enc:TypeId × Value->H} {W:World} {base:Nat} {spare:Nat->Bool} {held:Bool} {fuel:Nat} {cs:List Value} {x:DataW H × List MemPlace}
  (h:DataW.trod enc Tryz.prog W base spare held fuel 22 cs=some x):∃ a rs cap,cs=[.slice a (List.length (α:=NR) rs) cap]/\TR W a rs 0 W.heap.size/\NOk (nds rs)/\NInt (nds rs):=by
 rcases open_slice Tryz.underlying22 h with ⟨rfl,_⟩ | ⟨ad,len,cap,m,n,D,Pl,rfl,hb,hl,hm,hmm,_,hx⟩
 ·exact ⟨none,[],0,rfl,GR.nil _ _ _ _ _,by unfold NOk;simp [nds],by unfold NInt;simp [nds]⟩
 ·have hlm:len<=m:=by rw [hmm];split <;> omega
  have each:∀ i,i<len->∃ f:NR,(∀ r v,(qaj f)[r]?=some v->W.cell? (ad.add (i*9+r))=some v)/\CRow W f.loc (pcs f.nd.pieces)/\f.nd.name.size<=9223372036854775807/\(f.nd.pieces.length<=9223372036854775807/\(Lit.int .i64 f.nd.id).wf=true/\(Lit.int .i64 f.nd.parent).wf=true):=by
   intro i hi;obtain ⟨cs',h1,h2⟩:=hx i (by omega);rw [cells_node] at h1;obtain ⟨_,hlen,hcell⟩:=World.cells?_some h1;obtain ⟨y0,y1,y2,y3,y4,y5,y6,y7,y8,k,_,g0,g1,g2,g3,g4,g5,g6,g7,g8⟩:=trod_nine Tryz.underlying128 h2
   match cs',hlen with
   | [v0,v1,v2,v3,v4,v5,v6,v7,v8],_ =>
    simp only [qkn,cells_str,cells_bool,cells_pieces,List.drop_zero,List.drop_succ_cons,List.take_succ_cons,List.take_zero] at g0 g1 g2 g3 g4 g5 g6 g7 g8;obtain ⟨q0,e0,_,f0⟩:=DataW.trod_int Tryz.underlying3 g0;obtain ⟨q1,e1,_,f1⟩:=DataW.trod_int Tryz.underlying3 g1;obtain ⟨q2,e2,_,z2⟩:=DataW.trod_string Tryz.underlying9 g2;obtain ⟨q3,e3,_⟩:=DataW.trod_bool Tryz.underlying4 g3;obtain ⟨q4,e4,_,_⟩:=DataW.trod_int Tryz.underlying3 g4;obtain ⟨q5,e5,_,_⟩:=DataW.trod_int Tryz.underlying3 g5;obtain ⟨q6,e6,_,_⟩:=DataW.trod_int Tryz.underlying3 g6;obtain ⟨pa,ps,pc,e7,hpr,hpl⟩:=open_pieces g7;obtain ⟨q8,e8,_,_⟩:=DataW.trod_int Tryz.underlying3 g8;have c0:=hcell 0 (by omega);have c1:=hcell 1 (by omega);have c2:=hcell 2 (by omega);have c3:=hcell 3 (by omega);have c4:=hcell 4 (by omega);have c5:=hcell 5 (by omega);have c6:=hcell 6 (by omega);have c7:=hcell 7 (by omega);have c8:=hcell 8 (by omega);rw [add_add] at c0 c1 c2 c3 c4 c5 c6 c7 c8;simp only [List.cons.injEq,and_true] at e0 e1 e2 e3 e4 e5 e6 e7 e8;subst e0 e1 e2 e3 e4 e5 e6 e7 e8;unfold maxLen at z2;refine ⟨⟨⟨q0,q1,q2,q3,q4,q5,q6,ps,q8⟩,pa,pc⟩,fun r v hv=>?_,hpr,by simpa using z2,hpl,f0,f1⟩
    match r,hv with
    | 0,hv=>simp [qaj] at hv;subst hv;simpa using c0
    | 1,hv=>simp [qaj] at hv;subst hv;simpa using c1
    | 2,hv=>simp [qaj] at hv;subst hv;simpa using c2
    | 3,hv=>simp [qaj] at hv;subst hv;simpa using c3
    | 4,hv=>simp [qaj] at hv;subst hv;simpa using c4
    | 5,hv=>simp [qaj] at hv;subst hv;simpa using c5
    | 6,hv=>simp [qaj] at hv;subst hv;simpa using c6
    | 7,hv=>simp [qaj] at hv;subst hv;simpa using c7
    | 8,hv=>simp [qaj] at hv;subst hv;simpa using c8
  obtain ⟨xs,hxl,hrow,hall⟩:=qko qai (by decide) each;refine ⟨some ad,xs,cap,by rw [hxl],⟨RRow.of_crow hrow,fun r hr=>RRow.of_crow (hall r hr).1⟩,⟨by rw [qaf,hxl];unfold maxLen at hm;omega,fun n hn=>?_⟩,fun n hn=>?_⟩
  ·obtain ⟨r,hr,rfl⟩:=List.mem_map.1 hn
   exact ⟨(hall r hr).2.1,(hall r hr).2.2.1⟩
  ·obtain ⟨r,hr,rfl⟩:=List.mem_map.1 hn
   exact (hall r hr).2.2.2
theorem cellsFileL:Tryz.prog.cellsOf 131 = 3:=by kernel_rfl
theorem cellsFilesL:Tryz.prog.cellsOf 25 = 1:=by kernel_rfl
theorem cellsStr:Tryz.prog.cellsOf 9 = 1:=by kernel_rfl
theorem cellsInt:Tryz.prog.cellsOf 3 = 1:=by kernel_rfl
theorem open_files {H:Type} {enc:TypeId × Value->H} {W:World} {base:Nat} {spare:Nat->Bool} {held:Bool} {fuel:Nat} {cs:List Value} {x:DataW H × List MemPlace}
  (h:DataW.trod enc Tryz.prog W base spare held fuel 25 cs=some x):∃ a fs cap,cs=[.slice a (List.length (α:=FM) fs) cap]/\FRow W a fs/\FFit fs:=by
 rcases open_slice Tryz.underlying25 h with ⟨rfl,_⟩ | ⟨ad,len,cap,m,n,D,Pl,rfl,hb,hl,hm,hmm,_,hx⟩
 ·exact ⟨none,[],0,rfl,fun h=>by simp [fcs] at h,by simp,by simp⟩
 ·have hlm:len<=m:=by rw [hmm];split <;> omega
  have each:∀ i,i<len->∃ f:FM,(W.cell? (ad.add (i*3))=some (.string f.name)/\W.cell? (ad.add (i*3+1))=some (.string f.text)/\W.cell? (ad.add (i*3+2))=some (.int .i64 f.kept)) /\
    f.name.size<=9223372036854775807/\f.text.size<=9223372036854775807/\-9223372036854775808<=f.kept/\f.kept<=9223372036854775807:=by
   intro i hi;obtain ⟨cs',h1,h2⟩:=hx i (by omega);rw [cellsFileL] at h1;obtain ⟨_,hlen,hcell⟩:=World.cells?_some h1;obtain ⟨y0,y1,y2,k,_,_,g0,g1,g2⟩:=trod_struct3 Tryz.underlying131 h2
   match cs',hlen with
   | [v0,v1,v2],_ =>
    simp only [cellsStr,cellsInt,List.drop_zero,List.drop_succ_cons,List.take_succ_cons,List.take_zero] at g0 g1 g2;obtain ⟨s0,e0,_,z0⟩:=DataW.trod_string Tryz.underlying9 g0;obtain ⟨s1,e1,_,z1⟩:=DataW.trod_string Tryz.underlying9 g1;obtain ⟨q,e2,_,z2⟩:=DataW.trod_int Tryz.underlying3 g2;have c0:=hcell 0 (by omega);have c1:=hcell 1 (by omega);have c2:=hcell 2 (by omega);rw [add_add] at c0 c1 c2;simp only [List.cons.injEq,and_true] at e0 e1 e2;subst e0 e1 e2;obtain ⟨b0,b1⟩:=bounds_i64 z2;unfold maxLen at z0 z1;exact ⟨⟨s0,s1,q⟩,⟨by simpa using c0,by simpa using c1,by simpa using c2⟩,by simpa using z0,by simpa using z1,b0,b1⟩
  obtain ⟨F,hF⟩:=choose_lt each;have hlen:((List.range len).map F).length=len:=by simp
  have hget:∀ j (hj:j<((List.range len).map F).length),((List.range len).map F)[j]=F j:=by intro j hj;simp
  refine ⟨some ad,(List.range len).map F,cap,by rw [hlen],?_,?_,?_⟩
  ·intro hp
   rw [qik,hlen] at hp
   have hs:ad.spot=none:=by
    have:=World.cell?_spot (hF 0 (by omega)).1.1
    simpa [Addr.add] using this
   obtain ⟨b,off,spot⟩:=ad;simp only at hs;subst hs;have hadd:∀ i,(⟨b,off,none⟩:Addr).add i=⟨b,off+i,none⟩:=by intro i;cases i <;> simp [Addr.add]
   refine ⟨b,off,rfl,?_,fun i v hv=>?_⟩
   ·have c:=(hF 0 (by omega)).1.1
    by_cases hb:b<W.heap.size
    ·exact hb
    ·unfold World.cell? at c
     rw [show ((⟨b,off,none⟩:Addr).add (0*3)).block=b by simp [Addr.add],Array.getElem?_eq_none (by omega)] at c;simp at c
   ·have hi:i<(fcs ((List.range len).map F)).length:=(List.getElem?_eq_some_iff.1 hv).1
    rw [qik,hlen] at hi;obtain ⟨q,r,rfl,hr3⟩:∃ q r,i=q*3+r/\r<3:=⟨i / 3,i % 3,by omega,by omega⟩;have hj:q<((List.range len).map F).length:=by rw [hlen];omega
    have l1:=flat_get qbb ((List.range len).map F) q hj r hr3;rw [hget _ hj] at l1;have l2:(qbz (F q))[r]?=some v:=by rw [<-l1];exact hv
    obtain ⟨⟨d0,d1,d2⟩,_⟩:=hF q (by omega);rw [hadd] at d0 d1 d2;have hr:r=0\/r=1\/r=2:=by omega
    rcases hr with rfl | rfl | rfl <;> simp [qbz] at l2 <;> subst l2
    ·exact d0
    ·exact d1
    ·exact d2
  ·rw [hlen];unfold maxLen at hm;omega
  ·intro f hf
   obtain ⟨j,hj,rfl⟩:=List.mem_map.1 hf;exact (hF j (by simpa using hj)).2
theorem qkl:Tryz.prog.cellsOf 81 = 3:=by kernel_rfl
theorem cellsTLease:Tryz.prog.cellsOf 9 = 1:=by kernel_rfl
theorem cellsNLease:Tryz.prog.cellsOf 3 = 1:=by kernel_rfl
theorem openLease_cells {H:Type} {enc:TypeId × Value->H} {W:World} {base:Nat} {spare:Nat->Bool} {held:Bool} {n:Nat} {cs:List Value} {x:DataW H × List MemPlace} (h:DataW.trod enc Tryz.prog W base spare held n 81 cs=some x) :
  ∃ f:LsM,cs=lsC f/\LsFit f:=by
 obtain ⟨xs,k,_,rfl,hl,hlen,hf⟩:=DataW.trod_struct Tryz.underlying81 h;rw [qkl] at hl
 match xs,hlen,cs,hl with
 | [y0,y1,y2],_,[v0,v1,v2],_ =>
  have g0:=hf 0 _ rfl;have g1:=hf 1 _ rfl;have g2:=hf 2 _ rfl;simp [cellsTLease,cellsNLease] at g0 g1 g2;obtain ⟨s0,e0,_,z0⟩:=DataW.trod_string Tryz.underlying9 g0;obtain ⟨q1,e1,_,z1⟩:=DataW.trod_int Tryz.underlying3 g1;obtain ⟨q2,e2,_,z2⟩:=DataW.trod_int Tryz.underlying3 g2;simp only [List.cons.injEq,and_true] at e0 e1 e2;subst e0 e1 e2;unfold maxLen at z0;exact ⟨⟨s0,q1,q2⟩,rfl,by simpa using z0,bounds_i64 z1,bounds_i64 z2⟩
theorem openLeaseS_cells {H:Type} {enc:TypeId × Value->H} {W:World} {base:Nat} {spare:Nat->Bool} {held:Bool} {va:Option Addr} {vl vc fuel:Nat} {x:DataW H × List MemPlace}
  (h:DataW.trod enc Tryz.prog W base spare held fuel 28 [.slice va vl vc]=some x):∃ xs,vl=List.length (α:=LsM) xs/\LsRow W va xs/\LsFits xs:=by
 rcases open_slice Tryz.underlying28 h with ⟨e,_⟩ | ⟨ad,len,cap,m,n,D,Pl,e,hb,hl,hm,hmm,_,hx⟩
 ·simp only [List.cons.injEq,and_true,Value.slice.injEq] at e
  obtain ⟨rfl,rfl,rfl⟩:=e;exact ⟨[],rfl,fun h=>by simp [lsS] at h,by simp,by simp⟩
 ·have hlm:len<=m:=by rw [hmm];split <;> omega
  have each:∀ i,i<len->∃ f:LsM,(∀ r v,(lsC f)[r]?=some v->W.cell? (ad.add (i*3+r))=some v)/\LsFit f:=by
   intro i hi;obtain ⟨cs',h1,h2⟩:=hx i (by omega);rw [qkl] at h1;obtain ⟨_,hlen,hcell⟩:=World.cells?_some h1;obtain ⟨f,rfl,hfit⟩:=openLease_cells h2;refine ⟨f,fun r v hv=>?_,hfit⟩;have hr:r<(lsC f).length:=(List.getElem?_eq_some_iff.1 hv).1;have c:=hcell r (by rw [qdm] at hr;omega);rw [add_add] at c;rw [c];exact hv
  obtain ⟨xs,hxl,hrow,hall⟩:=qko (en:=lsC) qdm (by decide) each;simp only [List.cons.injEq,and_true,Value.slice.injEq] at e;obtain ⟨rfl,rfl,rfl⟩:=e;exact ⟨xs,by rw [hxl],hrow,by rw [hxl];unfold maxLen at hm;omega,hall⟩
theorem cellsSv:Tryz.prog.cellsOf 30 = 7:=by kernel_rfl
theorem cellsSvB:Tryz.prog.cellsOf 4 = 1:=by kernel_rfl
theorem cellsSvI:Tryz.prog.cellsOf 3 = 1:=by kernel_rfl
theorem cellsSvT:Tryz.prog.cellsOf 24 = 2:=by kernel_rfl
theorem cellsSvD:Tryz.prog.cellsOf 27 = 1:=by kernel_rfl
theorem cellsSvL:Tryz.prog.cellsOf 28 = 1:=by kernel_rfl
theorem open_treeC {H:Type} {enc:TypeId × Value->H} {W:World} {base:Nat} {spare:Nat->Bool} {held:Bool} {fuel:Nat} {x:DataW H × List MemPlace} {c0 c1:Value} (h:DataW.trod enc Tryz.prog W base spare held fuel 24 [c0,c1]=some x) :
  ∃ (a:Option Addr) (rs:List NR) (cap:Nat) (q:Int),c0 = .slice a rs.length cap/\c1 = .int .i64 q/\TSee W (.agg #[.slice a rs.length cap,.int .i64 q]) ⟨nds rs,q⟩ 0 W.heap.size/\NOk (nds rs)/\NInt (nds rs):=by
 obtain ⟨y0,y1,n,_,_,h0,h1⟩:=trod_struct2 Tryz.underlying24 h;simp only [cells_nodes,qkn,List.drop_zero,List.drop_succ_cons,List.take_succ_cons,List.take_zero] at h0 h1;obtain ⟨a,rs,cap,e,g1,g2⟩:=open_nodes h0;obtain ⟨q,e1,_,_⟩:=DataW.trod_int Tryz.underlying3 h1;simp only [List.cons.injEq,and_true] at e e1;subst e e1;exact ⟨a,rs,cap,q,rfl,rfl,⟨a,cap,rs,rfl,rfl,g1⟩,g2⟩
theorem open_diskC {H:Type} {enc:TypeId × Value->H} {W:World} {base:Nat} {spare:Nat->Bool} {held:Bool} {fuel:Nat} {x:DataW H × List MemPlace} {c0:Value} (h:DataW.trod enc Tryz.prog W base spare held fuel 27 [c0]=some x) :
  ∃ (a:Option Addr) (fs:List FM) (cap:Nat),c0 = .slice a fs.length cap/\FRow W a fs/\FFit fs:=by
 obtain ⟨y0,n,_,_,h0⟩:=trod_struct1 Tryz.underlying27 h;simp only [cellsFilesL,List.drop_zero,List.take_succ_cons,List.take_zero] at h0;obtain ⟨a,fs,cap,e,h1,h2⟩:=open_files h0;simp only [List.cons.injEq,and_true] at e;exact ⟨a,fs,cap,e,h1,h2⟩
theorem open_leasesC {H:Type} {enc:TypeId × Value->H} {W:World} {base:Nat} {spare:Nat->Bool} {held:Bool} {fuel:Nat} {x:DataW H × List MemPlace} {c0:Value} (h:DataW.trod enc Tryz.prog W base spare held fuel 28 [c0]=some x) :
  ∃ (a:Option Addr) (us:List LsM) (cap:Nat),c0 = .slice a us.length cap/\LsRow W a us/\LsFits us:=by
 have hs:∃ va vl vc,c0 = .slice va vl vc:=by
  rcases open_slice Tryz.underlying28 h with ⟨e,_⟩ | ⟨ad,len,cap,m,n,D,Pl,e,_⟩
  ·simp only [List.cons.injEq,and_true] at e
   exact ⟨_,_,_,e⟩
  ·simp only [List.cons.injEq,and_true] at e
   exact ⟨_,_,_,e⟩
 obtain ⟨va,vl,vc,rfl⟩:=hs;obtain ⟨us,rfl,h1,h2⟩:=openLeaseS_cells h;exact ⟨va,us,vc,rfl,h1,h2⟩
theorem openServer {H:Type} {enc:TypeId × Value->H} {W:World} {r:Reach} {b0 base:Nat} {spare:Nat->Bool} {held:Bool} {v:Value} {d:DataW H} {p:List MemPlace}
  (hv:Value.okWide Tryz.prog W r b0 30 v) (h:DataW.Trod enc Tryz.prog W base spare held 30 v d p) :
  ∃ (S:SvM) (ca da la:Option Addr) (cm cc dc lc:Nat),v = .agg #[.bool S.up,.slice ca cm cc,.int .i64 S.tree.next,.int .i64 S.groups,.slice da S.disk.length dc,.slice la S.leases.length lc,.int .i64 S.now]/\SvAt W S (.agg #[.slice ca cm cc,.int .i64 S.tree.next]) da la 0 W.heap.size/\(NOk S.tree.nodes/\NInt S.tree.nodes)/\FFit S.disk/\LsFits S.leases:=by
 obtain ⟨cs,rfl,hsz⟩:=okWide_struct Tryz.underlying30 hv;rw [cellsSv] at hsz;obtain ⟨fuel,h⟩:=h;obtain ⟨xs,k,_,_,hl,hlen,hf⟩:=DataW.trod_struct Tryz.underlying30 h
 obtain ⟨v0,v1,v2,v3,v4,v5,v6,rfl⟩:∃ v0 v1 v2 v3 v4 v5 v6,cs=#[v0,v1,v2,v3,v4,v5,v6]:=by
  match cs,hsz with
  | ⟨[v0,v1,v2,v3,v4,v5,v6]⟩,_=>exact ⟨v0,v1,v2,v3,v4,v5,v6,rfl⟩
 match xs,hlen with
 | [y0,y1,y2,y3,y4,y5],_ =>
  have g0:=hf 0 _ rfl;have g1:=hf 1 _ rfl;have g2:=hf 2 _ rfl;have g3:=hf 3 _ rfl;have g4:=hf 4 _ rfl;have g5:=hf 5 _ rfl;simp [cellsSvB,cellsSvI,cellsSvT,cellsSvD,cellsSvL,Value.cells] at g0 g1 g2 g3 g4 g5;obtain ⟨q0,e0,_⟩:=DataW.trod_bool Tryz.underlying4 g0;obtain ⟨ta,rs,tc,nx,rfl,rfl,ht,hn⟩:=open_treeC g1;obtain ⟨q2,e2,_,_⟩:=DataW.trod_int Tryz.underlying3 g2;obtain ⟨da,fs,dc,rfl,hd,hfd⟩:=open_diskC g3;obtain ⟨la,us,lc,rfl,hl4,hfl⟩:=open_leasesC g4;obtain ⟨q5,e5,_,_⟩:=DataW.trod_int Tryz.underlying3 g5;simp only [List.cons.injEq,and_true] at e0 e2 e5;subst e0 e2 e5;exact ⟨⟨q0,⟨nds rs,nx⟩,q2,fs,us,q5⟩,ta,da,la,rs.length,tc,dc,lc,rfl,⟨ht,hd,hl4⟩,hn,hfd,hfl⟩
end
section
variable {fs:List FM}
structure SvIn (w0 W:World) (T:TM) (D:List FM) (L:List LsM) (ca:Option Addr) (cm cc:Nat) (nx:Int) (da:Option Addr) (dc:Nat) (la:Option Addr) (lc l1 h1 l2 h2 l3 h3:Nat):Prop where
 sl:SL w0 W [rwS la (lsS L) l3 h3,rwS da (fcs D) l2 h2,trS (.agg #[.slice ca cm cc,.int .i64 nx]) T l1 h1]
 d:D.length<=dc
 l:L.length<=lc
def SvOut (T:TM) (D:List FM) (L:List LsM) (nx:Int) (f:Option Addr->Nat->Nat->Option Addr->Nat->Option Addr->Nat->Value) (w:World) (e:Ending) (w':World):Prop:=
 ∃ ca cm cc da dc la lc l1 h1 l2 h2 l3 h3,e = .returned (f ca cm cc da dc la lc)/\SvIn w w' T D L ca cm cc nx da dc la lc l1 h1 l2 h2 l3 h3
theorem SL.front3 {w0 W:World} {a b c:Str} {S:List Str} (h:SL w0 W (a::b::c::S)):SL w0 W [a,b,c]:=
 ⟨h.bel,fun s hs=>h.is s (by simp only [List.mem_cons,List.not_mem_nil,or_false] at hs;rcases hs with rfl | rfl | rfl <;> simp),by
  have h1:=List.pairwise_cons.1 h.apart;have h2:=List.pairwise_cons.1 h1.2;have h3:=List.pairwise_cons.1 h2.2;refine List.pairwise_cons.2 ⟨fun s hs=>h1.1 s ?_,List.pairwise_cons.2 ⟨fun s hs=>h2.1 s ?_,List.pairwise_cons.2 ⟨fun s hs=>?_,.nil⟩⟩⟩
  ·simp only [List.mem_cons,List.not_mem_nil,or_false] at hs;rcases hs with rfl | rfl <;> simp
  ·simp only [List.mem_cons,List.not_mem_nil,or_false] at hs;subst hs;simp
  ·cases hs⟩
def markF (k:Nat):FM:=⟨mt k,mt (k+1),((k+2:Nat):Int)⟩
def qdn (k n:Nat):List FM:=(List.range n).map fun j=>markF (k+3*j)
theorem qil (k n:Nat):(qdn k n).length=n:=by simp [qdn]
theorem qnj (k n j:Nat) (h:j<(qdn k n).length):(qdn k n)[j]=markF (k+3*j):=by simp [qdn]
theorem marked_all {k n:Nat} {ys:List FM} (hl:ys.length=n) (h:∀ t,t<n->ys.getD t default=markF (k+3*t)):ys=qdn k n:=by
 apply List.ext_getElem
 ·rw [hl,qil]
 ·intro i h1 h2
  rw [qnj];have:=h i (by omega)
  simpa [List.getD,h1] using this
theorem fcs_three (ys:List FM) (j:Nat) (hj:j<ys.length) (f:FM):(((fcs ys).set (j*3) (.string f.name)).set (j*3+1) (.string f.text)).set (j*3+2) (.int .i64 f.kept)=fcs (ys.set j f):=
 qkt qbb ys j hj f
theorem markFileS_none (a:Option Addr) (k ca:Nat) (w:World) :
  Calls Tryz.prog 77 #[.slice a 0 ca,.int .i64 k] w fun e w'=>e = .returned (.int .i64 k)/\w'=w:=by
 go_enter Tryz.func77,Tryz.ntmps77;go_wp2_with fail;go_rounds 1
 go_ret;exact ⟨rfl,rfl⟩
def qqe (g k n:Nat) (w:World) (e:Ending) (w':World):Prop:=e = .returned (.int .i64 (k+3*n:Nat))/\WCells w' g (fcs (qdn k n))/\w.grownBy w' (some g)
theorem markFileS_any (g:Nat) (xs:List FM) (k ca:Nat) (w:World) (ha:WCells w g (fcs xs)) (hk:0<k) (hn:k+3*xs.length<=1000000000) (hca:xs.length<=ca) :
  Calls Tryz.prog 77 #[.slice (some ⟨g,0,none⟩) xs.length ca,.int .i64 k] w fun e w'=>qqe g k xs.length w e w':=by
 obtain ⟨n,hnx⟩:∃ n,n=xs.length:=⟨_,rfl⟩;have HN:Hid (n=xs.length):=hnx;rw [<-hnx];rw [<-hnx] at hn hca;clear hnx;have HA:Hid (WCells w g (fcs xs)):=ha;clear ha;go_enter Tryz.func77,Tryz.ntmps77;go_wp2_with fail;go_loopw [1,5] (fun c i wr=>∃ (j:Nat) (ys:List FM),i = .int .i64 j/\c = .int .i64 (k+3*j:Nat)/\j<=n/\ys.length=n/\(∀ t,t<j->ys.getD t default=markF (k+3*t))/\Sh (WCells wr g (fcs ys))/\w.grownBy wr (some g)) (fun _ i _=>n - (intOf i).toNat)
 case atStart=>exact ⟨0,xs,rfl,rfl,Nat.zero_le _,HN.out.symm,fun t ht=>by omega,⟨HA.out⟩,grownBy_below zB⟩
 case round =>
  obtain ⟨j,ys,rfl,rfl,hj,hyl,hys,hw,hgr⟩:=hrel;have HL:Hid (ys.length=n):=hyl;have HY:Hid (∀ t,t<j->ys.getD t default=markF (k+3*t)):=hys;have HW:Hid (WCells wr g (fcs ys)):=hw.1;have HGR:Hid (w.grownBy wr (some g)):=hgr;clear hyl hys hw hgr
  by_cases hlt:j<n
  ·have j0:(0:Int)<=(j:Int):=by omega
   have j1:(j:Int)<(n:Int):=by omega
   have hly:(fcs ys).length=n*3:=by rw [qik,HL.out]
   go_wp2_with fail;refine (qbp (k+3*j) _ (by omega) (by omega)).mono ?_;rintro e w1 ⟨rfl,hb1⟩;have hw1:=HW.out.below hb1 HW.out.1;obtain ⟨c0,z0⟩:=hw1.2 (j*3) _ (List.getElem?_eq_getElem (by omega));have hs0:=hw1.set (j*3) (.string (mt (k+3*j))) (by omega);have HS0:Hid (WCells (w1.setCell ⟨g,j*3,none⟩ (.string (mt (k+3*j)))) g ((fcs ys).set (j*3) (.string (mt (k+3*j))))):=hs0;have HG0:Hid (w.grownBy (w1.setCell ⟨g,j*3,none⟩ (.string (mt (k+3*j)))) (some g)):=qbm HGR.out (qbm (grownBy_below hb1) (grownBy_setCell w1 g _ _));clear hb1 hw1 hs0;have q:=qbp (k+3*j+1) (w1.setCell ⟨g,j*3,none⟩ (.string (mt (k+3*j)))) (by omega) (by omega);rw [show ((k+3*j+1:Nat):Int)=(k:Int)+3*(j:Int)+1 by push_cast;rfl] at q;have Q:Hid (Calls Tryz.prog 78 #[.int .i64 ((k:Int)+3*(j:Int)+1)] (w1.setCell ⟨g,j*3,none⟩ (.string (mt (k+3*j)))) fun e w'=>e = .returned (.string (mt (k+3*j+1)))/\Below (w1.setCell ⟨g,j*3,none⟩ (.string (mt (k+3*j)))).heap.size (w1.setCell ⟨g,j*3,none⟩ (.string (mt (k+3*j)))) w'):=q;clear q;go_wp2_with fail;refine Q.out.mono ?_;rintro e w2 ⟨rfl,hb2⟩;have hw2:=HS0.out.grow hb2;obtain ⟨c1,z1⟩:=hw2.2 (j*3+1) _ (List.getElem?_eq_getElem (by rw [List.length_set];omega));have hs1:=hw2.set (j*3+1) (.string (mt (k+3*j+1))) (by rw [List.length_set];omega);obtain ⟨c2,z2⟩:=hs1.2 (j*3+2) _ (List.getElem?_eq_getElem (by rw [List.length_set,List.length_set];omega));have hs2:=hs1.set (j*3+2) (.int .i64 ((k+3*j+2:Nat):Int)) (by rw [List.length_set,List.length_set];omega);have hfin:=fcs_three ys j (by have:=HL.out;omega) (markF (k+3*j));rw [show (markF (k+3*j)).name=mt (k+3*j) from rfl,show (markF (k+3*j)).text=mt (k+3*j+1) from rfl,show (markF (k+3*j)).kept=((k+3*j+2:Nat):Int) from rfl] at hfin
   rw [hfin,show ((k+3*j+2:Nat):Int)=(k:Int)+3*(j:Int)+1+1 by push_cast;omega] at hs2;have HS2:Hid (WCells (((w2.setCell ⟨g,j*3+1,none⟩ (.string (mt (k+3*j+1)))).setCell ⟨g,j*3+2,none⟩ (.int .i64 ((k:Int)+3*(j:Int)+1+1)))) g (fcs (ys.set j (markF (k+3*j))))):=hs2;have HG2:Hid (w.grownBy (((w2.setCell ⟨g,j*3+1,none⟩ (.string (mt (k+3*j+1)))).setCell ⟨g,j*3+2,none⟩ (.int .i64 ((k:Int)+3*(j:Int)+1+1)))) (some g)):=qbm HG0.out (qbm (grownBy_below hb2) (qbm (grownBy_setCell w2 g _ _) (grownBy_setCell _ g _ _)));clear hb2 hw2 hs1 hs2 hfin Q HS0 HG0;go_wp2_with fail;go_roundw
   case rel =>
    refine ⟨j+1,ys.set j (markF (k+3*j)),by go_num,congrArg (Value.int .i64) (by omega),by omega,by rw [List.length_set];exact HL.out,fun t ht=>?_,⟨HS2.out⟩,HG2.out⟩
    by_cases hjt:t=j
    ·subst hjt
     simp [List.getD,show t<ys.length by have:=HL.out;omega]
    ·rw [List.getD_eq_getElem?_getD,List.getElem?_set_ne (Ne.symm hjt),<-List.getD_eq_getElem?_getD]
     exact HY.out t (by omega)
   case measure=>simp [intOf];omega
  ·have e:j=n:=by omega
   subst e;have hfin:=marked_all HL.out HY.out;subst hfin;go_wp2_with fail;go_ret;exact ⟨rfl,HW.out,HGR.out⟩
theorem heldFileS_any (a:Option Addr) (k n ca:Nat) (w:World) (ha:FRow w a (qdn k n)) (hk:0<k) (hn:k+3*n<=1000000000) :
  Calls Tryz.prog 80 #[.slice a n ca,.int .i64 k] w fun e w'=>e = .returned (.int .i64 (k+3*n:Nat))/\Below w.heap.size w w':=by
 have HA:Hid (FRow w a (qdn k n)):=ha;clear ha;go_enter Tryz.func80,Tryz.ntmps80;go_wp2_with fail;go_loopw [1,5] (fun c i wr=>∃ (j:Nat),i = .int .i64 j/\c = .int .i64 (k+3*j:Nat)/\j<=n/\Below w.heap.size w wr) (fun _ i _=>n - (intOf i).toNat)
 case atStart=>exact ⟨0,rfl,rfl,Nat.zero_le _,zB⟩
 case round =>
  obtain ⟨j,rfl,rfl,hj,hb⟩:=hrel;have HB:Hid (Below w.heap.size w wr):=hb
  by_cases hlt:j<n
  ·obtain ⟨b,off,rfl,lb,hc⟩:=FRow.at (HA.out.stays hb) (by rw [qil];omega)
   obtain ⟨d0,d1,d2⟩:=hc j (by rw [qil];omega);rw [qnj] at d0 d1 d2;rw [show (markF (k+3*j)).name=mt (k+3*j) from rfl] at d0;rw [show (markF (k+3*j)).text=mt (k+3*j+1) from rfl] at d1;rw [show (markF (k+3*j)).kept=(k:Int)+3*(j:Int)+1+1 by show ((k+3*j+2:Nat):Int)=_;push_cast;omega] at d2;have j0:(0:Int)<=(j:Int):=by omega
   have j1:(j:Int)<(n:Int):=by omega
   have hself1:((mt (k+3*j)).toList==(mt (k+3*j)).toList)=true:=by simp
   clear hc hb;go_wp2_with fail;go_region_held3 (fun w'=>w'.cell? ⟨b,off+j*3,none⟩=some (.string (mt (k+3*j)))) (first | go_keep | (rw [hb1.cell (p:=⟨b,off+j*3,none⟩) (by exact lb)];assumption)) ((go_at_call 78;refine (qbp (k+3*j) _ ?_ ?_).mono ?_;(omega);(omega);rintro e w1 ⟨rfl,hb1⟩))
   all_goals
    have lb1:b<w1.heap.size:=Nat.lt_of_lt_of_le lb hb1.size;have d1':w1.cell? ⟨b,off+j*3+1,none⟩=some (.string (mt (k+3*j+1))):=(hb1.cell (p:=⟨b,off+j*3+1,none⟩) lb).trans d1;have d2':w1.cell? ⟨b,off+j*3+2,none⟩=some (.int .i64 ((k:Int)+3*(j:Int)+1+1)):=(hb1.cell (p:=⟨b,off+j*3+2,none⟩) lb).trans d2;have HB1:Hid (Below w.heap.size w w1):=HB.out.trans ((Below.drew zB).trans (hb1.mono HB.out.size))
    have q:∀ W:World,Calls Tryz.prog 78 #[.int .i64 ((k:Int)+3*(j:Int)+1)] W fun e w'=>e = .returned (.string (mt (k+3*j+1)))/\Below W.heap.size W w':=fun W=>by
     have q:=qbp (k+3*j+1) W (by omega) (by omega)
     rwa [show ((k+3*j+1:Nat):Int)=(k:Int)+3*(j:Int)+1 by push_cast;rfl] at q
    have Q:Sh (∀ W:World,Calls Tryz.prog 78 #[.int .i64 ((k:Int)+3*(j:Int)+1)] W fun e w'=>e = .returned (.string (mt (k+3*j+1)))/\Below W.heap.size W w'):=⟨q⟩;clear d0 d1 d2 hb1 q;go_wp2_with fail;go_region_held3 (fun w'=>w'.cell? ⟨b,off+j*3+1,none⟩=some (.string (mt (k+3*j+1)))) (first | go_keep | (rw [hb2.cell (p:=⟨b,off+j*3+1,none⟩) (by exact lb1)];assumption)) ((go_at_call 78;refine (Q.out _).mono ?_;rintro e w2 ⟨rfl,hb2⟩))
    all_goals
     have d2'':w2.cell? ⟨b,off+j*3+2,none⟩=some (.int .i64 ((k:Int)+3*(j:Int)+1+1)):=(hb2.cell (p:=⟨b,off+j*3+2,none⟩) lb1).trans d2';have HB2:Hid (Below w.heap.size w w2):=HB1.out.trans ((Below.drew zB).trans (hb2.mono HB1.out.size));clear d1' d2' hb2;go_wp2_with fail;exact ⟨⟨j+1,by go_num,congrArg (Value.int .i64) (by omega),by omega,HB2.out⟩,by simp [intOf];omega⟩
  ·have e:j=n:=by omega
   subst e;go_wp2_with fail;go_ret;exact ⟨rfl,hb⟩
def FOk (f:FM):Prop:=(1<=f.name.size/\f.name.size<=8)/\f.text.size<=20000/\0<=f.kept/\f.kept<=f.text.size
def FAt (fs:List FM) (k:Nat):Prop:=FOk (fs.getD k default)/\(0<k->Op.bytesLess (fs.getD (k - 1) default).name.toList (fs.getD k default).name.toList=true)
def DOk (fs:List FM):Prop:=fs.length<=30/\∀ k,k<fs.length->FAt fs k
open Classical in
noncomputable def dOkB (fs:List FM):Bool:=decide (DOk fs)
theorem qcp (h:DOk fs):dOkB fs=true:=by unfold dOkB;simp [h]
theorem qbt (h:¬ DOk fs):dOkB fs=false:=by unfold dOkB;simp [h]
theorem qbc (fs:List FM) (k:Nat) (h:k<fs.length):fs.getD k default=fs[k]:=by simp [List.getD,h]
theorem qbs (s:ByteArray) (w:World) (b:Bool) (h:decide (1<=s.size/\s.size<=8)=b):Calls Tryz.prog 96 #[.string s] w fun e w'=>e = .returned (.bool b)/\w'=w:=by
 have:=l03Name_any s w
 rwa [h] at this
theorem qji (x l m:Int) (w:World) (b:Bool) (h:decide (l<=x/\x<=m)=b):Calls Tryz.prog 44 #[.int .i64 x,.int .i64 l,.int .i64 m] w fun e w'=>e = .returned (.bool b)/\w'=w:=by
 have:=qll x l m w
 rwa [h] at this
theorem qcj (a:Option Addr) (fs:List FM) (cap:Nat) (w:World) (hr:FRow w a fs) (hf:FFit fs) (hl:fs.length<=1048576) :
  Calls Tryz.prog 95 #[.agg #[.slice a fs.length cap]] w fun e w'=>e = .returned (.bool (dOkB fs))/\Below w.heap.size w w':=by
 have hb0:Below w.heap.size w (w.alloc (.cells #[.slice a fs.length cap] 40)):=zB.alloc zL _
 by_cases h30:30<fs.length
 ·rw [qbt (fun h=>by have:=h.1;omega)]
  have h30':(30:Int)<(fs.length:Int):=by omega
  clear hr hf;go_enter Tryz.func95,Tryz.ntmps95;go_wp2_with fail;go_ret;exact ⟨rfl,hb0⟩
 ·have h30':¬ (30:Int)<(fs.length:Int):=by omega
  have HR:Hid (FRow w a fs):=hr;have HF:Hid (FFit fs):=hf;have hbox:=qac w #[.slice a fs.length cap] 40;have HX:Hid (WCells (w.alloc (.cells #[.slice a fs.length cap] 40)) w.heap.size [.slice a fs.length cap]):=hbox;have HB0:Hid (Below w.heap.size w (w.alloc (.cells #[.slice a fs.length cap] 40))):=hb0;clear hr hf hbox hb0;generalize hO:dOkB fs=O;have HO:Hid (dOkB fs=O):=hO;clear hO;go_enter Tryz.func95,Tryz.ntmps95;go_wp2_with fail;go_loopw [3] (fun i wr=>∃ (k:Nat),i = .int .i64 k/\k<=fs.length/\(∀ j,j<k->FAt fs j)/\WCells wr w.heap.size [.slice a fs.length cap]/\Below w.heap.size w wr) (fun i _=>fs.length - (intOf i).toNat)
  case atStart=>exact ⟨0,rfl,Nat.zero_le _,fun j hj=>by omega,HX.out,HB0.out⟩
  case round =>
   obtain ⟨k,rfl,hk,hgood,hx,hb⟩:=hrel;have HGD:Hid (∀ j,j<k->FAt fs j):=hgood;have x0:=(hx.2 0 _ rfl).1
   by_cases hlt:k<fs.length
   ·obtain ⟨b,off,rfl,lb,hc⟩:=FRow.at (HR.out.stays hb) (by omega)
    obtain ⟨d0,d1,d2⟩:=hc k hlt;obtain ⟨f,hfe⟩:∃ f,f=fs[k]:=⟨_,rfl⟩;rw [<-hfe] at d0 d1 d2;have HFE:Hid (fs.getD k default=f):=(qbc fs k hlt).trans hfe.symm;have k0:(0:Int)<=(k:Int):=by omega
    have k1:(k:Int)<(fs.length:Int):=by omega
    have hbx:Below w.heap.size w (wr.alloc (.cells #[.string f.name,.string f.text,.int .i64 f.kept] 150)):=hb.alloc hb.size _;have HBX:Hid (Below w.heap.size w (wr.alloc (.cells #[.string f.name,.string f.text,.int .i64 f.kept] 150))):=hbx;have hxx:=hx.alloc (.cells #[.string f.name,.string f.text,.int .i64 f.kept] 150);have HXX:Hid (WCells (wr.alloc (.cells #[.string f.name,.string f.text,.int .i64 f.kept] 150)) w.heap.size [.slice (some ⟨b,off,none⟩) fs.length cap]):=hxx;have y0:=(hxx.2 0 _ rfl).1;have HXN:∀ q,WCells ((wr.alloc (.cells #[.string f.name,.string f.text,.int .i64 f.kept] 150)).drewN q) w.heap.size [.slice (some ⟨b,off,none⟩) fs.length cap]:=fun q=>hxx;have HBN:∀ q,Below w.heap.size w ((wr.alloc (.cells #[.string f.name,.string f.text,.int .i64 f.kept] 150)).drewN q):=fun q=>hbx.trans ⟨rfl,rfl,rfl,zL,fun _ _=>rfl⟩;have lb':b<wr.heap.size:=lb;clear hfe hbx hxx hx
    by_cases hA:decide (1<=f.name.size/\f.name.size<=8)=true
    ·by_cases hB:f.text.size<=20000
     ·have hB':decide ((20000:Int)<(f.text.size:Int))=false:=by simp;omega
      by_cases hC:decide (0<=f.kept/\f.kept<=(f.text.size:Int))=true
      ·by_cases hk0:0<k
       ·obtain ⟨p0,_,_⟩:=hc (k - 1) (by omega)
        obtain ⟨f1,hf1⟩:∃ f1,f1=fs[k - 1]:=⟨_,rfl⟩;rw [<-hf1] at p0;have HF1:Hid (fs.getD (k - 1) default=f1):=(qbc fs (k - 1) (by omega)).trans hf1.symm;have q0:(wr.alloc (.cells #[.string f.name,.string f.text,.int .i64 f.kept] 150)).cell? ⟨b,off+(k - 1)*3,none⟩=some (.string f1.name):=((zB.alloc zL _:Below wr.heap.size wr (wr.alloc (.cells #[.string f.name,.string f.text,.int .i64 f.kept] 150))).cell (p:=⟨b,off+(k - 1)*3,none⟩) lb').trans p0;have hkp:(0:Int)<(k:Int):=by omega
        have hk1:(k:Int) - 1=((k - 1:Nat):Int):=by omega
        have hk2:(0:Int)<=((k - 1:Nat):Int):=by omega
        have hk3:((k - 1:Nat):Int)<(fs.length:Int):=by omega
        clear hc hf1 p0
        by_cases hD:Op.bytesLess f1.name.toList f.name.toList=true
        ·go_wp2_with fail
         go_quiet (first
          | (go_at_call 96;exact Calls.quiet_of_same (qbs _ _ true hA))
          | (go_at_call 44;exact Calls.quiet_of_same (qji _ _ _ _ true hC)))
         go_wp2_with fail;go_roundw
         case rel=>exact ⟨k+1,by go_num,by omega,fun j hj=>by rcases Nat.lt_succ_iff_lt_or_eq.1 hj with h | h;exact HGD.out j h;subst h;exact ⟨by rw [HFE.out];exact ⟨of_decide_eq_true hA,hB,(of_decide_eq_true hC).1,(of_decide_eq_true hC).2⟩,fun _=>by rw [HFE.out,HF1.out];exact hD⟩,HXN _,HBN _⟩
         case measure=>simp [intOf];omega
        ·have hD':Op.bytesLess f1.name.toList f.name.toList=false:=by simpa using hD
         go_wp2_with fail
         go_quiet (first
          | (go_at_call 96;exact Calls.quiet_of_same (qbs _ _ true hA))
          | (go_at_call 44;exact Calls.quiet_of_same (qji _ _ _ _ true hC)))
         go_wp2_with fail;go_ret;exact ⟨congrArg (fun b=>Ending.returned (.bool b)) ((HO.out.symm.trans (qbt (fun h=>hD (by have h2:=(h.2 k hlt).2 hk0;rw [HFE.out,HF1.out] at h2;exact h2)))).symm),HBN _⟩
       ·have hkn:decide ((0:Int)<(k:Int))=false:=by simp;omega
        clear hc;go_wp2_with fail
        go_quiet (first
         | (go_at_call 96;exact Calls.quiet_of_same (qbs _ _ true hA))
         | (go_at_call 44;exact Calls.quiet_of_same (qji _ _ _ _ true hC)))
        go_wp2_with fail;go_roundw
        case rel=>exact ⟨k+1,by go_num,by omega,fun j hj=>by rcases Nat.lt_succ_iff_lt_or_eq.1 hj with h | h;exact HGD.out j h;subst h;exact ⟨by rw [HFE.out];exact ⟨of_decide_eq_true hA,hB,(of_decide_eq_true hC).1,(of_decide_eq_true hC).2⟩,fun h=>absurd h hk0⟩,HXN _,HBN _⟩
        case measure=>simp [intOf];omega
      ·replace hC:decide (0<=f.kept/\f.kept<=(f.text.size:Int))=false:=by simpa using hC
       clear hc;go_wp2_with fail
       go_quiet (first
        | (go_at_call 96;exact Calls.quiet_of_same (qbs _ _ true hA))
        | (go_at_call 44;exact Calls.quiet_of_same (qji _ _ _ _ false hC)))
       go_wp2_with fail;go_ret;exact ⟨congrArg (fun b=>Ending.returned (.bool b)) ((HO.out.symm.trans (qbt (fun h=>of_decide_eq_false hC (by have h2:=(h.2 k hlt).1;rw [HFE.out] at h2;exact ⟨h2.2.2.1,h2.2.2.2⟩)))).symm),HBN _⟩
     ·have hB':decide ((20000:Int)<(f.text.size:Int))=true:=by simp;omega
      clear hc;go_wp2_with fail
      go_quiet (first
       | (go_at_call 96;exact Calls.quiet_of_same (qbs _ _ true hA)))
      go_wp2_with fail;go_ret;exact ⟨congrArg (fun b=>Ending.returned (.bool b)) ((HO.out.symm.trans (qbt (fun h=>hB (by have h2:=(h.2 k hlt).1;rw [HFE.out] at h2;exact h2.2.1)))).symm),HBN _⟩
    ·replace hA:decide (1<=f.name.size/\f.name.size<=8)=false:=by simpa using hA
     clear hc;go_wp2_with fail
     go_quiet (first
      | (go_at_call 96;exact Calls.quiet_of_same (qbs _ _ false hA)))
     go_wp2_with fail;go_ret;exact ⟨congrArg (fun b=>Ending.returned (.bool b)) ((HO.out.symm.trans (qbt (fun h=>of_decide_eq_false hA (by have h2:=(h.2 k hlt).1;rw [HFE.out] at h2;exact h2.1)))).symm),HBN _⟩
   ·have e:k=fs.length:=by omega
    subst e;go_wp2_with fail;go_ret;exact ⟨congrArg (fun b=>Ending.returned (.bool b)) ((HO.out.symm.trans (qcp ⟨by omega,fun j hj=>HGD.out j (by omega)⟩)).symm),hb⟩
end
theorem markDisk_none (a:Option Addr) (k ca:Nat) (w:World) :
  Calls Tryz.prog 32 #[.agg #[.slice a 0 ca],.int .i64 k] w fun e w'=>e = .returned (.int .i64 k)/\Below w.heap.size w w':=by
 go_enter Tryz.func32,Tryz.ntmps32;go_wp2_with fail;refine (markFileS_none a k ca _).mono ?_;rintro e w1 ⟨rfl,rfl⟩;go_wp2_with fail;go_ret;exact ⟨rfl,zB.alloc zL _⟩
theorem markDisk_any (g:Nat) (xs:List FM) (k ca:Nat) (w:World) (ha:WCells w g (fcs xs)) (hk:0<k) (hn:k+3*xs.length<=1000000000) (hca:xs.length<=ca) :
  Calls Tryz.prog 32 #[.agg #[.slice (some ⟨g,0,none⟩) xs.length ca],.int .i64 k] w fun e w'=>qqe g k xs.length w e w':=by
 have HA:Hid (WCells (w.alloc (.cells #[.slice (some ⟨g,0,none⟩) xs.length ca] 40)) g (fcs xs)):=ha.alloc _;have HG0:Hid (w.grownBy (w.alloc (.cells #[.slice (some ⟨g,0,none⟩) xs.length ca] 40)) (some g)):=grownBy_below (zB.alloc zL _);clear ha;go_enter Tryz.func32,Tryz.ntmps32;go_wp2_with fail;refine (markFileS_any g xs k ca _ HA.out hk hn hca).mono ?_;rintro e w1 ⟨rfl,hw1,hg1⟩;have HW1:Hid (WCells w1 g (fcs (qdn k xs.length))):=hw1;have HG1:Hid (w.grownBy w1 (some g)):=qbm HG0.out hg1;clear hw1 hg1;go_wp2_with fail;go_ret;exact ⟨rfl,HW1.out,HG1.out⟩
theorem heldDisk_any (a:Option Addr) (k n ca:Nat) (w:World) (ha:FRow w a (qdn k n)) (hk:0<k) (hn:k+3*n<=1000000000) :
  Calls Tryz.prog 35 #[.agg #[.slice a n ca],.int .i64 k] w fun e w'=>e = .returned (.int .i64 (k+3*n:Nat))/\Below w.heap.size w w':=by
 have hb0:Below w.heap.size w (w.alloc (.cells #[.slice a n ca] 40)):=zB.alloc zL _;have HA:Hid (FRow (w.alloc (.cells #[.slice a n ca] 40)) a (qdn k n)):=ha.stays hb0;have HB0:Hid (Below w.heap.size w (w.alloc (.cells #[.slice a n ca] 40))):=hb0;clear ha hb0;have hneg:¬ ((k:Int)+3*(n:Int))<0:=by omega
 go_enter Tryz.func35,Tryz.ntmps35;go_wp2_with fail;refine (heldFileS_any a k n ca _ HA.out hk hn).mono ?_;rintro e w1 ⟨rfl,hb1⟩;have HB1:Hid (Below w.heap.size w w1):=HB0.out.trans (hb1.mono HB0.out.size);clear hb1;go_wp2_with fail;go_ret;exact ⟨by first | rfl | (refine congrArg (fun x=>Ending.returned (.int .i64 x)) ?_;push_cast;rfl),HB1.out⟩
theorem qqd {a b:ByteArray} (h:a ≠ b):(a.toList==b.toList)=false:=by
 rw [ByteArray.toList_eq,ByteArray.toList_eq,beq_eq_false_iff_ne];exact fun e=>h (ByteArray.ext (Array.toList_inj.1 e))
def AtR (fs:List FM) (n:ByteArray) (r:Int):Prop:=
 (r = -1/\∀ f ∈ fs,f.name ≠ n)\/∃ k:Nat,r=(k:Int)/\k<fs.length/\(fs.getD k default).name=n/\∀ j,j<k->(fs.getD j default).name ≠ n
def AtPostD (fs:List FM) (n:ByteArray) (w:World) (e:Ending) (w':World):Prop:=∃ r:Int,e = .returned (.int .i64 r)/\AtR fs n r/\Below w.heap.size w w'
theorem qfs (a:Option Addr) (fs:List FM) (cap:Nat) (n:ByteArray) (w:World) (hr:FRow w a fs) (hl:fs.length<=1048576) :
  Calls Tryz.prog 97 #[.agg #[.slice a fs.length cap],.string n] w fun e w'=>AtPostD fs n w e w':=by
 have HR:Hid (FRow w a fs):=hr;have HX:Hid (WCells (w.alloc (.cells #[.slice a fs.length cap] 40)) w.heap.size [.slice a fs.length cap]):=qac w #[.slice a fs.length cap] 40;have HB0:Hid (Below w.heap.size w (w.alloc (.cells #[.slice a fs.length cap] 40))):=zB.alloc zL _;clear hr;go_enter Tryz.func97,Tryz.ntmps97;go_wp2_with fail;go_loopw [5] (fun i wr=>∃ (k:Nat),i = .int .i64 k/\k<=fs.length/\(∀ j,j<k->(fs.getD j default).name ≠ n)/\WCells wr w.heap.size [.slice a fs.length cap]/\Below w.heap.size w wr) (fun i _=>fs.length - (intOf i).toNat)
 case atStart=>exact ⟨0,rfl,Nat.zero_le _,fun j hj=>by omega,HX.out,HB0.out⟩
 case round =>
  obtain ⟨k,rfl,hk,hno,hx,hb⟩:=hrel;have HN:Hid (∀ j,j<k->(fs.getD j default).name ≠ n):=hno;have x0:=(hx.2 0 _ rfl).1;have HXX:Hid (WCells wr w.heap.size [.slice a fs.length cap]):=hx;have HB:Hid (Below w.heap.size w wr):=hb;clear hno hx
  by_cases hlt:k<fs.length
  ·obtain ⟨b,off,rfl,lb,hc⟩:=FRow.at (HR.out.stays hb) (by omega)
   obtain ⟨d0,_,_⟩:=hc k hlt;obtain ⟨f,hfe⟩:∃ f,f=fs[k]:=⟨_,rfl⟩;rw [<-hfe] at d0;have HFE:Hid (fs.getD k default=f):=(qbc fs k hlt).trans hfe.symm;have k0:(0:Int)<=(k:Int):=by omega
   have k1:(k:Int)<(fs.length:Int):=by omega
   clear hfe hb hc
   by_cases hn:f.name=n
   ·have HNE:Hid (f.name=n):=hn
    have hq:(f.name.toList==n.toList)=true:=by rw [hn];simp
    clear hn;go_wp2_with fail;go_ret;exact ⟨k,rfl,.inr ⟨k,rfl,hlt,by rw [HFE.out];exact HNE.out,HN.out⟩,HB.out⟩
   ·have hq:=qqd hn
    have HNE:Hid (f.name ≠ n):=hn;clear hn;go_wp2_with fail;go_roundw
    case rel=>exact ⟨k+1,by go_num,by omega,fun j hj=>by rcases Nat.lt_succ_iff_lt_or_eq.1 hj with h | h;exact HN.out j h;subst h;rw [HFE.out];exact HNE.out,HXX.out,HB.out⟩
    case measure=>simp [intOf];omega
  ·have e:k=fs.length:=by omega
   subst e;clear hb;go_wp2_with fail;go_ret;refine ⟨-1,rfl,.inl ⟨rfl,fun f hf=>?_⟩,HB.out⟩;obtain ⟨j,hj,rfl⟩:=List.getElem_of_mem hf;rw [<-qbc fs j hj];exact HN.out j hj
end Go.Proofs.YtackbhpgdohimaaGreatDoor
