/- Texts of ours, laid one behind the other: PathM, TreM, TreC, TreD, TreE, TreP, TreQ, StrV, PathA, PathB, PathC, GrwA, EdA, EdB, GrwB, EdD, ReadShort, EdZ. -/
import Derived.Test.YtoglebfiobofoaaGreatDoorQr1
import Derived.PlainAid
import Derived.Deep.RegionHeld3
import Derived.Deep.DrawnRows
import Derived.Deep.CutRange
import Derived.BigQuiet
import Derived.OrdersHeld
import Derived.Test.YtoglebfiobofoaaGreatDoorQrShf
/- PathM: . -/
namespace Go.Proofs.YtoglebfiobofoaaGreatDoor
set_option maxRecDepth 100000
set_option maxHeartbeats 16000000
open Go.PlainAid (bt)
variable {p:ByteArray} {bg i:Nat}
def nameC (c:UInt8):Bool:=(decide (97<=c.toNat)&&decide (c.toNat<=122))||(decide (48<=c.toNat)&&decide (c.toNat<=57))
def nameL (l:List UInt8):Bool:=l.all nameC&&(decide (1<=l.length)&&decide (l.length<=8))
theorem qjo {l:List UInt8} (h:nameL l=true):1<=l.length/\l.length<=8:=by
 unfold nameL at h
 simp only [Bool.and_eq_true,decide_eq_true_eq] at h
 exact h.2
def segs:List UInt8->List (List UInt8)
 | []=>[[]]
 | c::r=>if c=47 then []::segs r else match segs r with
  | []=>[[c]]
  | h::t=>(c::h)::t
theorem qhq:∀ l,segs l ≠ []
 | []=>by simp [segs]
 | c::r=>by
  unfold segs
  split
  ·simp
  ·split <;> simp
theorem qjp:∀ (l:List UInt8),(∀ c ∈ l,c ≠ 47)->segs l=[l]
 | [],_=>rfl
 | c::r,h=>by
  unfold segs
  rw [if_neg (h c (by simp)),qjp r (fun x hx=>h x (by simp [hx]))]
theorem qoa {c:UInt8} {r x:List UInt8} {t:List (List UInt8)} (h:c ≠ 47) (e:segs r=x::t):segs (c::r)=(c::x)::t:=by
 unfold segs
 rw [if_neg h,e]
theorem qml:∀ (a r:List UInt8),(∀ c ∈ a,c ≠ 47)->segs (a++47::r)=a::segs r
 | [],r,_=>by simp [segs]
 | c::a,r,h=>by
  exact qoa (h c (by simp)) (qml a r (fun x hx=>h x (by simp [hx])))
theorem qob:∀ (l:List UInt8),((segs l).map (47::·)).flatten=47::l
 | []=>rfl
 | c::r=>by
  have ih:=qob r
  unfold segs
  split
  ·rename_i e;subst e
   simp only [List.map_cons,List.flatten_cons,ih];rfl
  ·cases h:segs r with
   | nil=>exact absurd h (qhq r)
   | cons x t =>
    rw [h] at ih
    simp only [List.map_cons,List.flatten_cons,List.cons_append] at ih ⊢
    rw [List.cons.injEq] at ih
    rw [ih.2]
def qcd:List UInt8->List (List UInt8) × Bool
 | []=>([],false)
 | c::r=>if c=47 then (if r=[] then ([],true) else if (segs r).all nameL=true/\(segs r).length<=4 then (segs r,true) else ([],false)) else ([],false)
def joinP (L:List (List UInt8)):List UInt8:=if L=[] then [47] else (L.map (47::·)).flatten
theorem join_split {p:List UInt8} (h:(qcd p).2=true):joinP (qcd p).1=p:=by
 unfold qcd at h ⊢
 cases p with
 | nil=>cases h
 | cons c r =>
  simp only at h ⊢
  by_cases hc:c=47
  ·subst hc
   rw [if_pos rfl] at h ⊢
   by_cases hr:r=[]
   ·subst hr;rfl
   ·rw [if_neg hr] at h ⊢
    by_cases hq:(segs r).all nameL=true/\(segs r).length<=4
    ·rw [if_pos hq]
     show joinP (segs r)=47::r
     unfold joinP
     rw [if_neg (qhq r),qob]
    ·rw [if_neg hq] at h;cases h
  ·rw [if_neg hc] at h;cases h
theorem qjq {p:List UInt8}:(∀ l ∈ (qcd p).1,nameL l=true)/\(qcd p).1.length<=4:=by
 unfold qcd
 cases p with
 | nil=>exact ⟨by simp,by simp⟩
 | cons c r =>
  simp only
  split
  ·split
   ·exact ⟨by simp,by simp⟩
   ·split
    ·rename_i q
     rw [List.all_eq_true] at q
     exact q
    ·exact ⟨by simp,by simp⟩
  ·exact ⟨by simp,by simp⟩
abbrev ba (l:List UInt8):ByteArray:=⟨l.toArray⟩
abbrev lb (s:ByteArray):List UInt8:=s.data.toList
theorem ba_lb (s:ByteArray):ba (lb s)=s:=rfl
theorem lb_ba (l:List UInt8):lb (ba l)=l:=by simp [lb]
def nameB (s:ByteArray):Bool:=nameL (lb s)
def splitB (p:ByteArray):List ByteArray × Bool:=((qcd (lb p)).1.map ba,(qcd (lb p)).2)
def joinB (L:List ByteArray):ByteArray:=ba (joinP (L.map lb))
def qab (p:ByteArray):ByteArray × ByteArray × Bool:=if (splitB p).2=true/\(splitB p).1 ≠ [] then (joinB (splitB p).1.dropLast,(splitB p).1.getLastD ⟨#[]⟩,true) else (⟨#[]⟩,⟨#[]⟩,false)
theorem qoc (L:List (List UInt8)):(L.map ba).map lb=L:=by
 rw [List.map_map]
 exact List.map_id'' (fun l=>lb_ba l) L
theorem joinB_split (h:(splitB p).2=true):joinB (splitB p).1=p:=by
 unfold joinB splitB
 simp only
 rw [qoc,join_split h]
theorem qbx (p:ByteArray):(∀ s ∈ (splitB p).1,nameB s=true)/\(splitB p).1.length<=4:=by
 have h:=qjq (p:=lb p)
 refine ⟨fun s hs=>?_,?_⟩
 ·obtain ⟨l,hl,rfl⟩:=List.mem_map.1 hs
  unfold nameB
  rw [lb_ba]
  exact h.1 l hl
 ·show ((qcd (lb p)).1.map ba).length<=4
  rw [List.length_map];exact h.2
structure PaRel (p:ByteArray) (i bg:Nat) (done:List ByteArray):Prop where
 le:bg<=i
 pos:1<=bg
 clean:∀ j,bg<=j->j<i->bt p j ≠ 47
 sofar:(segs ((lb p).drop 1)).map ba=done++(segs ((lb p).drop bg)).map ba
 names:∀ s ∈ done,nameB s=true
theorem ext_list (s:ByteArray) (a b:Nat):lb (s.extract a b)=((lb s).drop a).take (b - a):=by simp [lb,ByteArray.data_extract]
theorem bt_at {s:ByteArray} {j:Nat} (h:j<s.size):bt s j=((lb s)[j]'h).toNat:=by
 unfold bt;rw [dif_pos h];rfl
theorem qfq (hi:i<=p.size) (h:∀ j,bg<=j->j<i->bt p j ≠ 47):∀ c ∈ ((lb p).drop bg).take (i - bg),c ≠ 47:=fun c hc e=>by
 subst e
 obtain ⟨j,hj,e2⟩:=List.mem_iff_getElem.1 hc
 rw [List.length_take,List.length_drop] at hj
 have hl:(lb p).length=p.size:=rfl
 rw [List.getElem_take,List.getElem_drop] at e2
 have:=h (bg+j) (by omega) (by omega)
 rw [bt_at (by omega)] at this
 simp only [e2] at this
 exact this (by decide)
theorem PaRel.start:PaRel p 1 1 []:=⟨Nat.le_refl _,Nat.le_refl _,fun j h1 h2=>by omega,rfl,by simp⟩
theorem PaRel.step {done:List ByteArray} (h:PaRel p i bg done) (hc:bt p i ≠ 47):PaRel p (i+1) bg done:=
 ⟨by have:=h.le;omega,h.pos,fun j h1 h2=>by
  by_cases e:j=i
  ·subst e;exact hc
  ·exact h.clean j h1 (by omega),h.sofar,h.names⟩
theorem PaRel.split {done:List ByteArray} (h:PaRel p i bg done) (hi:i<p.size) (hc:bt p i=47):(segs ((lb p).drop 1)).map ba=(done++[p.extract bg i])++(segs ((lb p).drop (i+1))).map ba:=by
 have hl:(lb p).length=p.size:=rfl
 have e:(lb p).drop bg=((lb p).drop bg).take (i - bg)++47::(lb p).drop (i+1):=by
  have h1:((lb p).drop bg).drop (i - bg)=47::(lb p).drop (i+1):=by
   rw [List.drop_drop,show bg+(i - bg)=i from by have:=h.le;omega,List.drop_eq_getElem_cons (by omega)]
   congr 1
   have:=bt_at hi
   rw [hc] at this
   have h2:((lb p)[i]'(by omega)).toNat=47:=by omega
   exact UInt8.toNat_inj.1 h2
  rw [<-h1,List.take_append_drop]
 rw [h.sofar,e,qml _ _ (qfq (by omega) h.clean),List.map_cons,List.append_assoc]
 congr 1
 rw [<-ext_list,ba_lb];rfl
theorem PaRel.fin {done:List ByteArray} (h:PaRel p i bg done) (hi:i=p.size):(segs ((lb p).drop 1)).map ba=done++[p.extract bg i]:=by
 have hl:(lb p).length=p.size:=rfl
 have e:(lb p).drop bg=((lb p).drop bg).take (i - bg):=by rw [List.take_of_length_le (by rw [List.length_drop];omega)]
 rw [h.sofar,e,qjp _ (qfq (by omega) h.clean),List.map_cons,List.map_nil,<-ext_list,ba_lb]
theorem PaRel.next {done:List ByteArray} (h:PaRel p i bg done) (hi:i<p.size) (hc:bt p i=47) (hn:nameB (p.extract bg i)=true):PaRel p (i+1) (i+1) (done++[p.extract bg i]):=
 ⟨Nat.le_refl _,by omega,fun j h1 h2=>by omega,h.split hi hc,fun s hs=>by
  rcases List.mem_append.1 hs with q | q
  ·exact h.names s q
  ·simp at q;subst q;exact hn⟩
theorem qjr (h1:1<p.size) (h0:bt p 0=47):splitB p=if (∀ s ∈ (segs ((lb p).drop 1)).map ba,nameB s=true)/\((segs ((lb p).drop 1)).map ba).length<=4 then ((segs ((lb p).drop 1)).map ba,true) else ([],false):=by
 have hl:(lb p).length=p.size:=rfl
 unfold splitB
 have e:lb p=47::(lb p).drop 1:=by
  have:=List.drop_eq_getElem_cons (l:=lb p) (i:=0) (by omega)
  rw [List.drop_zero] at this
  rw [this]
  congr 1
  have h2:=bt_at (s:=p) (j:=0) (by omega)
  rw [h0] at h2
  have h3:((lb p)[0]'(by omega)).toNat=47:=by omega
  exact UInt8.toNat_inj.1 h3
 have hne:(lb p).drop 1 ≠ []:=fun e=>by have:=congrArg List.length e;rw [List.length_drop] at this;simp at this;omega
 generalize (lb p).drop 1=r at *
 rw [e]
 unfold qcd
 simp only
 rw [if_pos trivial,if_neg hne,List.length_map]
 have hall:((segs r).all nameL=true)↔∀ s ∈ (segs r).map ba,nameB s=true:=by
  rw [List.all_eq_true]
  constructor
  ·intro h s hs
   obtain ⟨l,hl,rfl⟩:=List.mem_map.1 hs
   unfold nameB;rw [lb_ba];exact h l hl
  ·intro h l hl
   have:=h (ba l) (List.mem_map.2 ⟨l,hl,rfl⟩)
   unfold nameB at this;rw [lb_ba] at this;exact this
 by_cases hq:(segs r).all nameL=true/\(segs r).length<=4
 ·rw [if_pos hq,if_pos ⟨hall.1 hq.1,hq.2⟩]
 ·rw [if_neg hq,if_neg (fun k=>hq ⟨hall.2 k.1,k.2⟩)];rfl
end Go.Proofs.YtoglebfiobofoaaGreatDoor
/- TreM: . -/
namespace Go.Proofs.YtoglebfiobofoaaGreatDoor
set_option maxRecDepth 100000
set_option maxHeartbeats 16000000
variable {id:Int} {ns:List NM}
def atI (ns:List NM) (id:Int):Int:=match ns.findIdx? (fun n=>n.id==id) with
 | some i=>(i:Int)
 | none=>-1
theorem atI_none (h:∀ n ∈ ns,n.id ≠ id):atI ns id = -1:=by
 unfold atI
 rw [List.findIdx?_eq_none_iff.2 (fun n hn=>by simpa using h n hn)]
theorem qrc {i:Nat} (hi:i<ns.length) (h:ns[i].id=id) (hl:∀ j,j<i->∀ hj:j<ns.length,ns[j].id ≠ id):atI ns id=(i:Int):=by
 unfold atI
 have:ns.findIdx? (fun n=>n.id==id)=some i:=by
  rw [List.findIdx?_eq_some_iff_getElem]
  exact ⟨hi,by simpa using h,fun j hj=>by simpa using hl j hj (by omega)⟩
 rw [this]
theorem qfg (ns:List NM) (id:Int):(atI ns id = -1/\∀ n ∈ ns,n.id ≠ id)\/∃ i,∃ hi:i<ns.length,atI ns id=(i:Int)/\ns[i].id=id:=by
 unfold atI
 cases h:ns.findIdx? (fun n=>n.id==id) with
 | none =>
  left
  exact ⟨rfl,fun n hn=>by have:=List.findIdx?_eq_none_iff.1 h n hn;simpa using this⟩
 | some i =>
  right
  obtain ⟨hi,h1,_⟩:=List.findIdx?_eq_some_iff_getElem.1 h
  exact ⟨i,hi,rfl,by simpa using h1⟩
def inI (x a b:Int):Bool:=decide (a<=x)&&decide (x<=b)
theorem inI_iff {x a b:Int}:inI x a b=true↔a<=x/\x<=b:=by unfold inI;simp
def qay (s:Int) (p:PM):Bool:=inI p.group 1 100000&&inI p.len 1 (qbh s:Nat)
def sumP:List PM->Int
 | []=>0
 | p::ps=>p.len+sumP ps
theorem qkd (a b:List PM):sumP (a++b)=sumP a+sumP b:=by
 induction a with
 | nil=>simp [sumP]
 | cons p a ih=>simp only [List.cons_append,sumP,ih];omega
theorem qou (ps:List PM) (k:Nat) (h:k<ps.length):sumP (ps.take (k+1))=sumP (ps.take k)+ps[k].len:=by
 rw [List.take_succ_eq_append_getElem h,qkd]
 simp [sumP]
theorem qsl {s:Int} {ps:List PM} (h:∀ p ∈ ps,qay s p=true):0<=sumP ps/\sumP ps<=32*ps.length:=by
 induction ps with
 | nil=>simp [sumP]
 | cons p ps ih =>
  have h1:=ih (fun q hq=>h q (by simp [hq]))
  have h2:=h p (by simp)
  unfold qay at h2
  rw [Bool.and_eq_true,inI_iff,inI_iff] at h2
  have h3:=qcf s
  simp only [sumP,List.length_cons]
  push_cast
  omega
def fileOk (n:NM):Bool:=inI n.schema 1 3&&(n.quota==0)&&decide (n.pieces.length<=40)&&inI n.writer 0 9&&n.pieces.all (qay n.schema)&&(sumP n.pieces==n.len)&&decide (sumP n.pieces<=1000)
def dirOk (n:NM):Bool:=inI n.schema 0 3&&inI n.quota 0 1000&&(n.len==0)&&decide (n.pieces.length=0)&&(n.writer==0)
def qbm (n:NM):Bool:=(n.id==1)&&(n.parent==0)&&decide (n.name=⟨#[]⟩)&&n.dir&&(n.schema != 0)
def climbs (ns:List NM):Nat->Int->Bool
 | 0,_=>false
 | f+1,id=>match ns.findIdx? (fun n=>n.id==id) with
  | none=>false
  | some k=>if (ns.getD k default).parent=1 then true else climbs ns f (ns.getD k default).parent
def nodeOk (T:TM) (i:Nat):Bool:=
 decide ((T.nodes.getD i default).id<T.next)&&(if i=0 then qbm (T.nodes.getD i default) else decide ((T.nodes.getD (i - 1) default).id<(T.nodes.getD i default).id)) &&
 (if (T.nodes.getD i default).dir then dirOk (T.nodes.getD i default) else fileOk (T.nodes.getD i default)) &&
 (decide (i=0)||(nameB (T.nodes.getD i default).name&&decide (0<=atI T.nodes (T.nodes.getD i default).parent)&&(T.nodes.getD (atI T.nodes (T.nodes.getD i default).parent).toNat default).dir &&
  (List.range i).all (fun j=>! (((T.nodes.getD j default).parent==(T.nodes.getD i default).parent)&&decide ((T.nodes.getD j default).name=(T.nodes.getD i default).name)))&&climbs T.nodes 4 (T.nodes.getD i default).id))
def qae (T:TM):Bool:=decide (1<=T.nodes.length)&&decide (T.nodes.length<=14)&&decide (T.next<=100000)&&(List.range T.nodes.length).all (nodeOk T)
end Go.Proofs.YtoglebfiobofoaaGreatDoor
/- TreC: . -/
namespace Go.Proofs.YtoglebfiobofoaaGreatDoor
set_option maxRecDepth 100000
set_option maxHeartbeats 16000000
open Go.RowKit
attribute [local go_sem ↓] Go.wp_at_zero Go.wp_at_succ
variable {L:List ByteArray} {L1 L2 L3:List Value} {n:NM} {hi hi' lo lo':Nat} {v:Value} {W w w':World}
structure Tri (w W:World) (L1 L2 L3:List Value):Prop where
 bel:Below w.heap.size w W
 b1:WCells W w.heap.size L1
 b2:WCells W (w.heap.size+1) L2
 b3:WCells W (w.heap.size+1+1) L3
theorem Tri.new (w:World) (A B C:Array Value) (tA tB tC:TypeId):Tri w (((w.alloc (.cells A tA)).alloc (.cells B tB)).alloc (.cells C tC)) A.toList B.toList C.toList:=by
 have e1:(w.alloc (.cells A tA)).heap.size=w.heap.size+1:=by simp
 have e2:((w.alloc (.cells A tA)).alloc (.cells B tB)).heap.size=w.heap.size+1+1:=by simp
 refine ⟨(((Below.refl _ _).alloc (Nat.le_refl _) _).alloc (by simp) _).alloc (by simp;omega) _,((qad w A tA).alloc _).alloc _,?_,?_⟩
 ·have:=(qad (w.alloc (.cells A tA)) B tB).alloc (.cells C tC)
  rw [e1] at this;exact this
 ·have:=qad ((w.alloc (.cells A tA)).alloc (.cells B tB)) C tC
  rw [e2] at this;exact this
theorem Tri.set (h:Tri w W L1 L2 L3) (i:Nat) (v:Value) (hi:i<L3.length):Tri w (W.setCell ⟨w.heap.size+1+1,i,none⟩ v) L1 L2 (L3.set i v):=
 ⟨h.bel.setCell (p:=⟨w.heap.size+1+1,i,none⟩) (by show w.heap.size<=w.heap.size+1+1;omega) v,h.b1.other _ _ (by show w.heap.size ≠ w.heap.size+1+1;omega),h.b2.other _ _ (by show w.heap.size+1 ≠ w.heap.size+1+1;omega),h.b3.set i v hi⟩
theorem Tri.below {w W W':World} (h:Tri w W L1 L2 L3) (hb:Below W.heap.size W W'):Tri w W' L1 L2 L3:=⟨h.bel.trans (hb.mono h.bel.size),h.b1.grow hb,h.b2.grow hb,h.b3.grow hb⟩
theorem qmp:(Tryz.prog.info? 87).map (fun i=>(i.zero,i.size,i.bytes))=some (some (.agg #[.int .i64 0,.int .i64 0,.string ⟨#[]⟩,.bool false,.int .i64 0,.int .i64 0,.int .i64 0,.slice none 0 0,.int .i64 0]),9,96):=by kernel_rfl
theorem qra {ps:List PM} (h:ps ≠ []):pcs ps ≠ []:=fun e=>h (pcs_nil.1 e)

theorem qrd (rs:List NR) (i:Nat) (h:i<rs.length):(nds rs)[i]'(by rw [qaf];exact h)=rs[i].nd:=by simp [nds]
theorem qfh {T:TM} (id:Int) (h:TSee w v T lo hi) (hl:T.nodes.length<=1048576):Calls Tryz.prog 91 #[v,.int .i64 id] w fun e w'=>e = .returned (.int .i64 (atI T.nodes id))/\Below w.heap.size w w':=by
 obtain ⟨a,cap,rs,rfl,hr,hm⟩:=h
 obtain ⟨n,hn⟩:∃ n,n=rs.length:=⟨_,rfl⟩
 have hnl:n=T.nodes.length:=by rw [hn,<-hr,qaf]
 have HN:=Sh.mk (And.intro hn hr)
 obtain ⟨R,hR⟩:∃ R,R=atI T.nodes id:=⟨_,rfl⟩
 have HRR:=Sh.mk hR
 have hn9:n<=1048576:=by omega
 rw [<-hR,<-hn]
 generalize T.next=nx at *
 obtain ⟨W,hW⟩:∃ W,W=w.alloc (.cells #[.slice a n cap,.int .i64 nx] 42):=⟨_,rfl⟩
 have HB:Sh (Below w.heap.size w W):=⟨by rw [hW];exact (Below.refl _ _).alloc (Nat.le_refl _) _⟩
 have HM:=Sh.mk (hm.below HB.1)
 have x0:W.cell? ⟨w.heap.size,0,none⟩=some (.slice a n cap):=by rw [hW];exact ((qad w #[.slice a n cap,.int .i64 nx] 42).2 0 _ rfl).1
 clear hm hr hn hnl hR hl
 go_enter Tryz.func91,Tryz.ntmps91
 go_upto_region 1 with fail
 rw [<-hW]
 clear hW
 go_wp2_with fail
 go_loopw [5] (fun i wr=>∃ (k:Nat),i = .int .i64 k/\k<=n/\Sh (∀ j,j<k->∀ hj:j<T.nodes.length,T.nodes[j].id ≠ id)/\wr=W) (fun i _=>n - (intOf i).toNat)
 case atStart=>exact ⟨0,rfl,Nat.zero_le _,⟨fun j hj=>by omega⟩,rfl⟩
 case round =>
  obtain ⟨k,rfl,hk,hall,rfl⟩:=hrel
  by_cases hlt:k<n
  ·have hlr:k<rs.length:=by have:=HN.1.1;omega
   have htl:k<T.nodes.length:=by rw [<-HN.1.2,qaf];exact hlr
   obtain ⟨b,off,rfl,lb,hc⟩:=TR.nat HM.1 (by omega)
   have d0:=(hc k hlr).1
   have hid:rs[k].nd=T.nodes[k]:=by
    have:=qrd rs k hlr
    rw [<-this]
    simp only [HN.1.2]
   rw [hid] at d0
   have k0:(0:Int)<=(k:Int):=by omega
   have k1:(k:Int)<(n:Int):=by omega
   clear hc hid
   by_cases he:T.nodes[k].id=id
   ·have HE:Sh (R=(k:Int)):=⟨by rw [HRR.1];exact qrc htl he hall.1⟩
    have he':(T.nodes[k].id==id)=true:=by simpa using he
    generalize T.nodes[k].id=q at *
    go_wp2_with fail
    go_ret
    exact ⟨by rw [HE.1];rfl,HB.1⟩
   ·have he':(T.nodes[k].id==id)=false:=by simpa using he
    have HNX:Sh (∀ j,j<k+1->∀ hj:j<T.nodes.length,T.nodes[j].id ≠ id):=⟨fun j hj hj2=>by
     by_cases e:j=k
     ·subst e;exact he
     ·exact hall.1 j (by omega) hj2⟩
    generalize T.nodes[k].id=q at *
    go_wp2_with fail
    go_roundw
    case rel=>exact ⟨k+1,by go_num,by omega,HNX,by first | rfl | trivial⟩
    case measure=>simp [intOf];omega
  ·have hlt':¬ (k:Int)<(n:Int):=by omega
   have HE:Sh (R = -1):=⟨by
    rw [HRR.1]
    refine atI_none (fun m hm=>?_)
    obtain ⟨j,hj,rfl⟩:=List.mem_iff_getElem.1 hm
    exact hall.1 j (by rw [<-HN.1.2,qaf] at hj;have:=HN.1.1;omega) hj⟩
   go_wp2_with fail
   go_ret
   exact ⟨by rw [HE.1];rfl,HB.1⟩
theorem isInI (x a b:Int) (w:World) (r:Bool) (h:inI x a b=r):Calls Tryz.prog 52 #[.int .i64 x,.int .i64 a,.int .i64 b] w fun e w'=>e = .returned (.bool r)/\w'=w:=isIn x a b w r h
theorem fileOk_no1 (h:inI n.schema 1 3=false):fileOk n=false:=by unfold fileOk;rw [h];rfl
theorem fileOk_no2 (h:n.quota ≠ 0):fileOk n=false:=by unfold fileOk;rw [show (n.quota==0)=false by simpa using h];simp
theorem fileOk_no3 (h:¬ n.pieces.length<=40):fileOk n=false:=by unfold fileOk;rw [decide_eq_false h];simp
theorem fileOk_no4 (h:inI n.writer 0 9=false):fileOk n=false:=by unfold fileOk;rw [h];simp
theorem fileOk_no5 {p:PM} (hp:p ∈ n.pieces) (h:qay n.schema p=false):fileOk n=false:=by
 have:n.pieces.all (qay n.schema)=false:=by
  cases e:n.pieces.all (qay n.schema) with
  | false=>rfl
  | true=>rw [List.all_eq_true] at e;rw [e p hp] at h;cases h
 unfold fileOk;rw [this];simp
theorem fileOk_yes (h1:inI n.schema 1 3=true) (h2:n.quota=0) (h3:n.pieces.length<=40) (h4:inI n.writer 0 9=true) (h5:∀ p ∈ n.pieces,qay n.schema p=true):fileOk n=((sumP n.pieces==n.len)&&decide (sumP n.pieces<=1000)):=by
 unfold fileOk
 rw [h1,h2,decide_eq_true h3,h4,show n.pieces.all (qay n.schema)=true from List.all_eq_true.2 h5]
 simp
theorem specFile (r:NR) (w:World) (lo hi:Nat) (hp:RRow w r.loc (pcs r.nd.pieces) lo hi) (hpl:r.nd.pieces.length<=1048576):Calls Tryz.prog 165 #[nv r] w fun e w'=>e = .returned (.bool (fileOk r.nd))/\Below w.heap.size w w':=by
 obtain ⟨⟨id,parent,name,dir,schema,quota,len,pieces,writer⟩,loc,cap⟩:=r
 obtain ⟨R,hR⟩:∃ R,R=fileOk ⟨id,parent,name,dir,schema,quota,len,pieces,writer⟩:=⟨_,rfl⟩
 have HR:=Sh.mk hR
 dsimp only [nv] at *
 rw [<-hR]
 obtain ⟨np,hnp⟩:∃ np,np=pieces.length:=⟨_,rfl⟩
 rw [<-hnp] at hpl ⊢
 have HNP:=Sh.mk hnp
 obtain ⟨W,hW⟩:∃ W,W=w.alloc (.cells #[.int .i64 id,.int .i64 parent,.string name,.bool dir,.int .i64 schema,.int .i64 quota,.int .i64 len,.slice loc np cap,.int .i64 writer] 87):=⟨_,rfl⟩
 have HB:Sh (Below w.heap.size w W):=⟨by rw [hW];exact (Below.refl _ _).alloc (Nat.le_refl _) _⟩
 have HC:Sh (WCells W w.heap.size [.int .i64 id,.int .i64 parent,.string name,.bool dir,.int .i64 schema,.int .i64 quota,.int .i64 len,.slice loc np cap,.int .i64 writer]):=⟨by rw [hW];exact qad w #[.int .i64 id,.int .i64 parent,.string name,.bool dir,.int .i64 schema,.int .i64 quota,.int .i64 len,.slice loc np cap,.int .i64 writer] 87⟩
 have HP:=Sh.mk (hp.below HB.1)
 have x4:=(HC.1.2 4 _ rfl).1
 have x5:=(HC.1.2 5 _ rfl).1
 have x7:=(HC.1.2 7 _ rfl).1
 have x8:=(HC.1.2 8 _ rfl).1
 clear hp hR hnp
 cases h1:inI schema 1 3 with
 | false =>
  have HE:=Sh.mk (HR.1.trans (fileOk_no1 h1))
  go_enter Tryz.func165,Tryz.ntmps165
  go_upto_region 1 with fail
  rw [<-hW]
  clear hW
  go_wp2_with fail
  refine (isInI schema 1 3 _ false h1).mono ?_
  rintro e w1 ⟨rfl,hw1⟩
  obtain rfl:W=w1:=hw1.symm
  clear hw1
  go_wp2_with fail
  go_ret
  exact ⟨by rw [HE.1];rfl,HB.1⟩
 | true =>
  by_cases h2:quota=0
  case neg =>
   have HE:=Sh.mk (HR.1.trans (fileOk_no2 h2))
   have h2':(quota != 0)=true:=by simpa using h2
   go_enter Tryz.func165,Tryz.ntmps165
   go_upto_region 1 with fail
   rw [<-hW]
   clear hW
   go_wp2_with fail
   refine (isInI schema 1 3 _ true h1).mono ?_
   rintro e w1 ⟨rfl,hw1⟩
   obtain rfl:W=w1:=hw1.symm
   clear hw1
   go_wp2_with fail
   go_ret
   exact ⟨by rw [HE.1];rfl,HB.1⟩
  have h2':(quota != 0)=false:=by rw [h2];rfl
  have H2:=Sh.mk h2
  clear h2
  by_cases h3:np<=40
  case neg =>
   have HE:=Sh.mk (HR.1.trans (fileOk_no3 (by rw [<-HNP.1];exact h3)))
   have h3':(40:Int)<(np:Int):=by omega
   go_enter Tryz.func165,Tryz.ntmps165
   go_upto_region 1 with fail
   rw [<-hW]
   clear hW
   go_wp2_with fail
   refine (isInI schema 1 3 _ true h1).mono ?_
   rintro e w1 ⟨rfl,hw1⟩
   obtain rfl:W=w1:=hw1.symm
   clear hw1
   go_wp2_with fail
   go_ret
   exact ⟨by rw [HE.1];rfl,HB.1⟩
  have h3':¬ (40:Int)<(np:Int):=by omega
  cases h4:inI writer 0 9 with
  | false =>
   have HE:=Sh.mk (HR.1.trans (fileOk_no4 h4))
   go_enter Tryz.func165,Tryz.ntmps165
   go_upto_region 1 with fail
   rw [<-hW]
   clear hW
   go_wp2_with fail
   refine (isInI schema 1 3 _ true h1).mono ?_
   rintro e w1 ⟨rfl,hw1⟩
   obtain rfl:W=w1:=hw1.symm
   clear hw1
   go_wp2_with fail
   refine (isInI writer 0 9 _ false h4).mono ?_
   rintro e w1 ⟨rfl,hw1⟩
   obtain rfl:W=w1:=hw1.symm
   clear hw1
   go_wp2_with fail
   go_ret
   exact ⟨by rw [HE.1];rfl,HB.1⟩
  | true =>
   have HY:=Sh.mk (fun (q:∀ p ∈ pieces,qay schema p=true)=>HR.1.trans (fileOk_yes (n:=⟨id,parent,name,dir,schema,quota,len,pieces,writer⟩) h1 H2.1 (by rw [<-HNP.1];exact h3) h4 q))
   have HNO:=Sh.mk (fun (p:PM) (hp:p ∈ pieces) (q:qay schema p=false)=>HR.1.trans (fileOk_no5 (n:=⟨id,parent,name,dir,schema,quota,len,pieces,writer⟩) hp q))
   have x6:=(HC.1.2 6 _ rfl).1
   have hg:=qcf schema
   obtain ⟨G,hG⟩:∃ G,G=qbh schema:=⟨_,rfl⟩
   have HGS:=Sh.mk (fun W=>qgz schema W)
   rw [<-hG] at HGS hg
   have HG:=Sh.mk hG
   clear hG
   go_enter Tryz.func165,Tryz.ntmps165
   go_upto_region 1 with fail
   rw [<-hW]
   clear hW
   go_wp2_with fail
   refine (isInI schema 1 3 _ true h1).mono ?_
   rintro e w1 ⟨rfl,hw1⟩
   obtain rfl:W=w1:=hw1.symm
   clear hw1
   go_wp2_with fail
   refine (isInI writer 0 9 _ true h4).mono ?_
   rintro e w1 ⟨rfl,hw1⟩
   obtain rfl:W=w1:=hw1.symm
   clear hw1
   have HX:=Sh.mk (And.intro x4 (And.intro x6 x7))
   clear h1 h4 x4 x5 x6 x8
   go_wp2_with fail
   go_loopw [3,4] (fun s i wr=>∃ (k:Nat) (z:Int),i = .int .i64 k/\s = .int .i64 z/\k<=np/\0<=z/\z<=32*k/\Sh (z=sumP (pieces.take k)/\∀ p ∈ pieces.take k,qay schema p=true)/\Sh (Below W.heap.size W wr)) (fun _ i _=>np - (intOf i).toNat)
   case atStart=>exact ⟨0,0,rfl,rfl,Nat.zero_le _,by omega,by omega,⟨rfl,by simp⟩,⟨Below.refl _ _⟩⟩
   case round =>
    clear x7
    obtain ⟨k,z,rfl,rfl,hk,hz0,hz1,hall,hbl⟩:=hrel
    have hwl:w.heap.size<W.heap.size:=HC.1.1
    have x4:=(hbl.1.cell (p:=⟨w.heap.size,4,none⟩) hwl).trans HX.1.1
    have x6:=(hbl.1.cell (p:=⟨w.heap.size,6,none⟩) hwl).trans HX.1.2.1
    have x7:=(hbl.1.cell (p:=⟨w.heap.size,7,none⟩) hwl).trans HX.1.2.2
    by_cases hlt:k<np
    ·have hlp:k<pieces.length:=by have:=HNP.1;omega
     have k0:(0:Int)<=(k:Int):=by omega
     have k1:(k:Int)<(np:Int):=by omega
     obtain ⟨b,off,rfl,lb,hc⟩:=qon (HP.1.below hbl.1) (by omega)
     obtain ⟨d0,d1⟩:=hc k hlp
     have hst:=qou pieces k hlp
     have hmem:pieces[k] ∈ pieces:=List.getElem_mem hlp
     have HTK:Sh (pieces.take (k+1)=pieces.take k++[pieces[k]]):=⟨List.take_succ_eq_append_getElem hlp⟩
     have hbn:∀ q,Below W.heap.size W (wr.drewN q):=fun q=>hbl.1.trans ⟨rfl,rfl,rfl,Nat.le_refl _,fun _ _=>rfl⟩
     have HBN:=Sh.mk hbn
     generalize pieces[k]=p at *
     have HST:=Sh.mk hst
     clear hc hst hbn
     cases g1:inI p.group 1 100000 with
     | false =>
      have HE:=Sh.mk (HNO.1 p hmem (by unfold qay;rw [g1];rfl))
      clear hbl
      go_wp2_with fail
      go_quiet ((go_at_call 52;exact Calls.quiet_of_same (isInI _ _ _ _ false g1)))
      go_wp2_with fail
      go_ret
      exact ⟨by rw [HE.1];rfl,HB.1.trans ((HBN.1 _).mono HB.1.size)⟩
     | true =>
      cases g2:inI p.len 1 (G:Int) with
      | false =>
       have HE:=Sh.mk (HNO.1 p hmem (by unfold qay;rw [<-HG.1,g1,g2];rfl))
       clear hbl
       go_wp2_with fail
       go_quiet (first | (go_at_call 169;exact Calls.quiet_of_same (HGS.1 _)) | (go_at_call 52;exact Calls.quiet_of_same (isInI _ _ _ _ true g1)) | (go_at_call 52;exact Calls.quiet_of_same (isInI _ _ _ _ false g2)))
       go_wp2_with fail
       go_ret
       exact ⟨by rw [HE.1];rfl,HB.1.trans ((HBN.1 _).mono HB.1.size)⟩
      | true =>
       have hok:qay schema p=true:=by unfold qay;rw [<-HG.1,g1,g2];rfl
       have hlen:=inI_iff.1 g2
       have HAL:Sh (z+p.len=sumP (pieces.take (k+1))/\∀ q ∈ pieces.take (k+1),qay schema q=true):=⟨by rw [HST.1,hall.1.1],fun q hq=>by
        rw [HTK.1] at hq
        rcases List.mem_append.1 hq with h | h
        ·exact hall.1.2 q h
        ·simp at h;subst h;exact hok⟩
       clear hbl hall hok
       go_wp2_with fail
       go_quiet (first | (go_at_call 169;exact Calls.quiet_of_same (HGS.1 _)) | (go_at_call 52;exact Calls.quiet_of_same (isInI _ _ _ _ true g1)) | (go_at_call 52;exact Calls.quiet_of_same (isInI _ _ _ _ true g2)))
       go_wp2_with fail
       go_roundw
       case rel=>exact ⟨k+1,z+p.len,by go_num,rfl,by omega,by omega,by push_cast;omega,HAL,⟨HBN.1 _⟩⟩
       case measure=>simp [intOf];omega
    ·have hlt':¬ (k:Int)<(np:Int):=by omega
     have hfull:pieces.take k=pieces:=List.take_of_length_le (by have:=HNP.1;omega)
     have hz:=hall.1
     rw [hfull] at hz
     have HE:=Sh.mk (HY.1 hz.2)
     have HZ:=Sh.mk hz.1
     clear hfull hz hall
     by_cases e1:z=len
     ·have e1':(z==len)=true:=by simpa using e1
      by_cases e2:z<=1000
      ·have HF:Sh (R=true):=⟨by rw [HE.1,<-HZ.1];simp [e1,e1 ▸ e2]⟩
       clear HE e1
       go_wp2_with fail
       go_ret
       exact ⟨by rw [HF.1];rfl,HB.1.trans (hbl.1.mono HB.1.size)⟩
      ·have HF:Sh (R=false):=⟨by rw [HE.1,<-HZ.1];simp;omega⟩
       clear HE e1
       go_wp2_with fail
       go_ret
       exact ⟨by rw [HF.1];rfl,HB.1.trans (hbl.1.mono HB.1.size)⟩
     ·have e1':(z==len)=false:=by simpa using e1
      have HF:Sh (R=false):=⟨by rw [HE.1,<-HZ.1];simp [e1]⟩
      clear HE e1
      go_wp2_with fail
      go_ret
      exact ⟨by rw [HF.1];rfl,HB.1.trans (hbl.1.mono HB.1.size)⟩
theorem qkb (L:List ByteArray) (j:Nat) (h:j<L.length):(tv L)[j]?=some (.string (L.getD j ⟨#[]⟩)):=by simp [tv,List.getD,h]
def tsum:List ByteArray->Nat
 | []=>0
 | x::L=>x.size+tsum L
theorem qkc (L M:List ByteArray):tsum (L++M)=tsum L+tsum M:=by
 induction L with
 | nil=>simp [tsum]
 | cons t L ih=>simp only [List.cons_append,tsum];omega
theorem tsum_take (L:List ByteArray) (k:Nat) (h:k<L.length):tsum (L.take (k+1))=tsum (L.take k)+(L.getD k ⟨#[]⟩).size:=by
 rw [List.take_succ_eq_append_getElem h,qkc]
 have e:L.getD k ⟨#[]⟩=L[k]:=by simp [List.getD,h]
 rw [e];simp [tsum]
theorem qsg (L:List ByteArray) (k:Nat):tsum (L.take k)<=tsum L:=by
 have:=qkc (L.take k) (L.drop k)
 rw [List.take_append_drop] at this
 omega
def TFit (L:List ByteArray):Prop:=L.length+tsum L<=1048576
def SSee (w:World) (v:Value) (L:List ByteArray) (lo hi:Nat):Prop:=∃ (a:Option Addr) (cap:Nat),v = .slice a L.length cap/\RRow w a (tv L) lo hi
def SAns (w:World) (v:Value) (L:List ByteArray) (lo hi:Nat):Prop:=∃ (a:Option Addr) (cap:Nat),v = .slice a L.length cap/\L.length<=cap/\(L=[]\/∃ g,a=some ⟨g,0,none⟩/\lo<=g/\g<hi/\WCells w g (tv L))
theorem SAns.see (h:SAns w v L lo hi):SSee w v L lo hi:=by
 obtain ⟨a,cap,e,_,h1⟩:=h
 refine ⟨a,cap,e,?_⟩
 rcases h1 with rfl | ⟨g,rfl,q1,q2,hm⟩
 ·intro h;simp [tv] at h
 ·exact RRow.of_wcells hm q1 q2
theorem SSee.turned (h:SSee w v L lo hi) (t:Turned w w' lo' hi') (hd:hi<=lo'\/hi'<=lo):SSee w' v L lo hi:=by
 obtain ⟨a,cap,e,h1⟩:=h
 exact ⟨a,cap,e,h1.turned t hd⟩
theorem SSee.below (h:SSee w v L lo hi) (hb:Below w.heap.size w w'):SSee w' v L lo hi:=by
 obtain ⟨a,cap,e,h1⟩:=h
 exact ⟨a,cap,e,h1.below hb⟩
theorem SAns.turned (h:SAns w v L lo hi) (t:Turned w w' lo' hi') (hd:hi<=lo'\/hi'<=lo):SAns w' v L lo hi:=by
 obtain ⟨a,cap,e,hc,h1⟩:=h
 refine ⟨a,cap,e,hc,?_⟩
 rcases h1 with rfl | ⟨g,rfl,q1,q2,hm⟩
 ·exact .inl rfl
 ·exact .inr ⟨g,rfl,q1,q2,hm.turned t (by omega)⟩
theorem SAns.below (h:SAns w v L lo hi) (hb:Below w.heap.size w w'):SAns w' v L lo hi:=by
 obtain ⟨a,cap,e,hc,h1⟩:=h
 refine ⟨a,cap,e,hc,?_⟩
 rcases h1 with rfl | ⟨g,rfl,q1,q2,hm⟩
 ·exact .inl rfl
 ·exact .inr ⟨g,rfl,q1,q2,hm.grow hb⟩
theorem SAns.empty (w:World) (a:Option Addr) (cap lo hi:Nat):SAns w (.slice a 0 cap) [] lo hi:=⟨a,cap,rfl,Nat.zero_le _,.inl rfl⟩
theorem qol:(Tryz.prog.info? 9).map (fun i=>(i.zero,i.size,i.bytes))=some (some (.string ⟨#[]⟩),1,16):=by kernel_rfl
end Go.Proofs.YtoglebfiobofoaaGreatDoor
/- PathA: . -/
namespace Go.Proofs.YtoglebfiobofoaaGreatDoor
set_option maxRecDepth 100000
set_option maxHeartbeats 16000000
open Go.RowKit
open Go.PlainAid (bt)
attribute [local go_sem ↓] Go.wp_at_zero Go.wp_at_succ
variable {p s:ByteArray} {L:List ByteArray} {B bg hi j k lo n:Nat} {t:TypeId} {v:Value} {w w':World}
theorem nameC_bt (h:j<s.size):nameC ((lb s)[j]'h)=((decide (97<=bt s j)&&decide (bt s j<=122))||(decide (48<=bt s j)&&decide (bt s j<=57))):=by
 unfold nameC
 rw [bt_at h]
 generalize ((lb s)[j]'h).toNat=n
 simp only [show ((97:Int)<=(n:Int))=(97<=n) from propext ⟨fun h=>by omega,fun h=>by omega⟩,show ((n:Int)<=122)=(n<=122) from propext ⟨fun h=>by omega,fun h=>by omega⟩,show ((48:Int)<=(n:Int))=(48<=n) from propext ⟨fun h=>by omega,fun h=>by omega⟩,show ((n:Int)<=57)=(n<=57) from propext ⟨fun h=>by omega,fun h=>by omega⟩]
def nameN (n:Int):Prop:=(97<=n/\n<=122)\/(48<=n/\n<=57)
theorem qny (h:j<s.size):nameC ((lb s)[j]'h)=true↔nameN (bt s j):=by
 rw [nameC_bt h]
 unfold nameN
 simp only [Bool.or_eq_true,Bool.and_eq_true,decide_eq_true_eq]
theorem qeb (s:ByteArray):nameB s=true↔(∀ j,j<s.size->nameN (bt s j))/\1<=s.size/\s.size<=8:=by
 unfold nameB nameL
 have hl:(lb s).length=s.size:=rfl
 simp only [Bool.and_eq_true,decide_eq_true_eq,List.all_eq_true,hl]
 constructor
 ·rintro ⟨h1,h2⟩
  exact ⟨fun j hj=>(qny hj).1 (h1 _ (List.getElem_mem hj)),h2⟩
 ·rintro ⟨h1,h2⟩
  refine ⟨fun c hc=>?_,h2⟩
  obtain ⟨j,hj,rfl⟩:=List.mem_iff_getElem.1 hc
  exact (qny hj).2 (h1 j hj)
theorem qql (h:j<s.size) (hn:¬ nameN (bt s j)):nameB s=false:=by
 cases e:nameB s with
 | false=>rfl
 | true=>exact absurd ((qeb s).1 e |>.1 j h) hn
theorem qqm {a:Option Addr} (h:RRow w a (tv L) lo hi) (hp:0<L.length):∃ b off,a=some ⟨b,off,none⟩/\b<w.heap.size/\∀ j,j<L.length->w.cell? ⟨b,off+j,none⟩=some (.string (L.getD j ⟨#[]⟩)):=by
 obtain ⟨b,off,e,_,_,hb,hc⟩:=h (by rw [qlw];exact hp)
 exact ⟨b,off,e,hb,fun j hj=>hc j _ (qkb L j hj)⟩
theorem qhp (s:ByteArray) (w:World) (hs:s.size<=1048576):Calls Tryz.prog 166 #[.string s] w fun e w'=>e = .returned (.bool (nameB s))/\Below w.heap.size w w':=by
 have hb:=Go.PlainAid.get_bt s
 obtain ⟨r,hre⟩:∃ r,r=nameB s:=⟨_,rfl⟩
 have HRE:=Sh.mk hre
 rw [<-hre]
 clear hre
 go_enter Tryz.func166,Tryz.ntmps166
 go_wp2_with fail
 go_loopw [3] (fun i wr=>∃ (k:Nat),i = .int .i64 k/\k<=s.size/\Sh (∀ j,j<k->nameN (bt s j))/\Sh (Below w.heap.size w wr)) (fun i _=>s.size - (intOf i).toNat)
 case atStart=>exact ⟨0,rfl,Nat.zero_le _,⟨fun j hj=>by omega⟩,⟨Below.refl _ _⟩⟩
 case round =>
  obtain ⟨k,rfl,hk,hall,hbl⟩:=hrel
  by_cases hlt:k<s.size
  ·have b0:=Go.PlainAid.bt_nonneg s k
   have b1:=Go.PlainAid.bt_le s k
   have hlt':(k:Int)<(s.size:Int):=by omega
   have k0:(0:Int)<=(k:Int):=by omega
   have HN:=Sh.mk (fun (q:nameN (bt s k))=>show ∀ j,j<k+1->nameN (bt s j) from fun j hj=>by
    by_cases e:j=k
    ·subst e;exact q
    ·exact hall.1 j (by omega))
   have HF:=Sh.mk (fun (q:¬ nameN (bt s k))=>HRE.1.trans (qql hlt q))
   by_cases c1:bt s k<97
   ·by_cases c2:bt s k<48
    ·have HE:=Sh.mk (HF.1 (fun q=>by unfold nameN at q;omega))
     go_wp2_with fail
     go_ret
     exact ⟨by rw [HE.1];rfl,hbl.1⟩
    ·by_cases c3:57<bt s k
     ·have HE:=Sh.mk (HF.1 (fun q=>by unfold nameN at q;omega))
      go_wp2_with fail
      go_ret
      exact ⟨by rw [HE.1];rfl,hbl.1⟩
     ·have HE:=Sh.mk (HN.1 (by unfold nameN;omega))
      go_wp2_with fail
      go_roundw
      case rel=>exact ⟨k+1,by go_num,by omega,HE,hbl⟩
      case measure=>simp [intOf];omega
   ·by_cases c2:122<bt s k
    ·have HE:=Sh.mk (HF.1 (fun q=>by unfold nameN at q;omega))
     have c3:¬ bt s k<48:=by omega
     have c4:57<bt s k:=by omega
     go_wp2_with fail
     go_ret
     exact ⟨by rw [HE.1];rfl,hbl.1⟩
    ·have HE:=Sh.mk (HN.1 (by unfold nameN;omega))
     go_wp2_with fail
     go_roundw
     case rel=>exact ⟨k+1,by go_num,by omega,HE,hbl⟩
     case measure=>simp [intOf];omega
  ·have hlt':¬ (k:Int)<(s.size:Int):=by omega
   have hin:(decide ((1:Int)<=(s.size:Int))&&decide ((s.size:Int)<=8))=r:=by
    rw [HRE.1,Bool.eq_iff_iff,qeb]
    simp only [Bool.and_eq_true,decide_eq_true_eq]
    constructor
    ·intro h;exact ⟨fun j hj=>hall.1 j (by omega),by omega,by omega⟩
    ·intro h;omega
   have HI:=Sh.mk (fun W=>isIn (s.size:Int) 1 8 W _ hin)
   clear hin hall
   go_wp2_with fail
   refine (HI.1 _).mono ?_
   rintro e w1 ⟨rfl,hw⟩
   subst hw
   go_wp2_with fail
   go_ret
   exact ⟨rfl,hbl.1⟩
def OPost (R:List ByteArray × Bool) (w:World) (e:Ending) (w':World):Prop:=∃ v,e = .returned (.tuple #[v,.bool R.2])/\w'.ownsRow w.heap.size 9 1 v R.1.length (tv R.1)/\Below w.heap.size w w'
theorem OPost.none {R:List ByteArray × Bool} {b:Bool} (h:R=([],b)) (ho:w'.ownsRow w.heap.size 9 1 v 0 []) (hb:Below w.heap.size w w'):OPost R w (.returned (.tuple #[v,.bool b])) w':=by
 unfold OPost
 rw [h]
 exact ⟨v,rfl,ho,hb⟩
theorem OPost.some {R L:List ByteArray × Bool} (h:R=L) (ho:w'.ownsRow w.heap.size 9 1 v L.1.length (tv L.1)) (hb:Below w.heap.size w w'):OPost R w (.returned (.tuple #[v,.bool L.2])) w':=by
 rw [h]
 exact ⟨v,rfl,ho,hb⟩
theorem qgt (hb:Below w.heap.size w w'):(w'.alloc (.cells #[] 9)).ownsRow w.heap.size 9 1 (.slice (.some ⟨w'.heap.size,0,none⟩) 0 0) 0 []:=World.ownsRow_made w' #[] 0 hb.size (by decide) rfl
theorem qhz (h:p.size=0\/bt p 0 ≠ 47):splitB p=([],false):=by
 have hl:(lb p).length=p.size:=rfl
 unfold splitB
 cases e:lb p with
 | nil=>rfl
 | cons c r =>
  have hc:c ≠ 47:=fun q=>by
   subst q
   rw [e] at hl
   simp at hl
   rcases h with h | h
   ·omega
   ·apply h
    have h1:0<p.size:=by omega
    rw [bt_at h1]
    simp only [e,List.getElem_cons_zero]
    decide
  have e2:qcd (c::r)=([],false):=by unfold qcd;exact if_neg hc
  rw [e2];rfl
theorem qlg (h:p=⟨#[47]⟩):splitB p=([],true):=by subst h;rfl
theorem one_slash (h:p.size=1) (h0:bt p 0=47):p=⟨#[47]⟩:=by
 have hl:(lb p).length=p.size:=rfl
 have e:lb p=[47]:=by
  cases e:lb p with
  | nil=>rw [e] at hl;simp at hl;omega
  | cons c r =>
   rw [e] at hl
   have hr:r=[]:=List.eq_nil_of_length_eq_zero (by simp at hl;omega)
   subst hr
   congr 1
   have h2:=bt_at (s:=p) (j:=0) (by omega)
   simp only [e,List.getElem_cons_zero] at h2
   rw [h0] at h2
   have h3:c.toNat=47:=by omega
   exact UInt8.toNat_inj.1 h3
 have:=congrArg ba e
 rw [ba_lb] at this
 exact this
structure PaWay (p:ByteArray) (k bg:Nat) (done:List ByteArray):Prop where
 open':k<=p.size->PaRel p k bg done
 fin:p.size<k->(segs ((lb p).drop 1)).map ba=done/\∀ s ∈ done,nameB s=true
theorem PaWay.split {done:List ByteArray} (h:PaWay p k bg done) (hk:k<=p.size) (hc:k<p.size->bt p k=47):∃ rest,(segs ((lb p).drop 1)).map ba=(done++[p.extract bg k])++rest:=by
 by_cases e:k<p.size
 ·exact ⟨_,(h.open' hk).split e (hc e)⟩
 ·exact ⟨[],by rw [List.append_nil];exact (h.open' hk).fin (by omega)⟩
theorem PaWay.bad {done:List ByteArray} (h:PaWay p k bg done) (h1:1<p.size) (h0:bt p 0=47) (hk:k<=p.size) (hc:k<p.size->bt p k=47) (hn:nameB (p.extract bg k)=false):splitB p=([],false):=by
 obtain ⟨rest,e⟩:=h.split hk hc
 rw [qjr h1 h0,if_neg (fun q=>by
  have:=q.1 (p.extract bg k) (by rw [e];simp)
  rw [hn] at this;cases this)]
theorem PaWay.next {done:List ByteArray} (h:PaWay p k bg done) (hk:k<=p.size) (hc:k<p.size->bt p k=47) (hn:nameB (p.extract bg k)=true):PaWay p (k+1) (k+1) (done++[p.extract bg k]):=by
 refine ⟨fun q=>(h.open' hk).next (by omega) (hc (by omega)) hn,fun q=>⟨(h.open' hk).fin (by omega),fun s hs=>?_⟩⟩
 rcases List.mem_append.1 hs with q | q
 ·exact (h.open' hk).names s q
 ·simp at q;subst q;exact hn
theorem PaWay.step {done:List ByteArray} (h:PaWay p k bg done) (hk:k<p.size) (hc:bt p k ≠ 47):PaWay p (k+1) bg done:=⟨fun _=>(h.open' (by omega)).step hc,fun q=>by omega⟩
theorem PaWay.done {done:List ByteArray} (h:PaWay p k bg done) (h1:1<p.size) (h0:bt p 0=47) (hk:p.size<k):splitB p=if done.length<=4 then (done,true) else ([],false):=by
 obtain ⟨e,hn⟩:=h.fin hk
 rw [qjr h1 h0,e]
 by_cases q:done.length<=4
 ·rw [if_pos ⟨hn,q⟩,if_pos q]
 ·rw [if_neg (fun k=>q k.2),if_neg q]
theorem qgu (p:ByteArray) (w:World) (hs:p.size<=1048576):Calls Tryz.prog 133 #[.string p] w fun e w'=>OPost (splitB p) w e w':=by
 obtain ⟨i0,hi,hz0,hz1,hz2⟩:=info_parts qol
 have hb:=Go.PlainAid.get_bt p
 have hal:Below w.heap.size w (w.alloc (.cells #[] 9)):=(Below.refl _ _).alloc (Nat.le_refl _) _
 have HAL:=Sh.mk hal
 have HOW:=Sh.mk (qgt (Below.refl w.heap.size w))
 clear hal
 by_cases h0:p.size=0
 ·have HE:=Sh.mk (qhz (.inl h0))
  have h0':((p.size:Int)==0)=true:=by rw [h0];rfl
  go_enter Tryz.func133,Tryz.ntmps133
  go_wp2_with fail
  go_ret2
  exact OPost.none HE.1 HOW.1 HAL.1
 have h0':((p.size:Int)==0)=false:=by rw [beq_eq_false_iff_ne];omega
 have h0n:0<p.size:=by omega
 have h0i:(0:Int)<(p.size:Int):=by omega
 have b0:=Go.PlainAid.bt_nonneg p 0
 have b1:=Go.PlainAid.bt_le p 0
 by_cases hc:bt p 0=47
 case neg =>
  have HE:=Sh.mk (qhz (.inr hc))
  have hc':(bt p 0 != 47)=true:=by rw [bne_iff_ne];exact hc
  go_enter Tryz.func133,Tryz.ntmps133
  go_wp2_with fail
  go_ret2
  exact OPost.none HE.1 HOW.1 HAL.1
 have hc':(bt p 0 != 47)=false:=by rw [hc];rfl
 have HC:=Sh.mk hc
 clear hc
 by_cases h1:p=⟨#[47]⟩
 ·have HE:=Sh.mk (qlg h1)
  have h1':(p.toList==[47])=true:=by rw [h1,Go.ByteArray.toList_eq];rfl
  have HP:=Sh.mk h1
  clear h1
  go_enter Tryz.func133,Tryz.ntmps133
  go_wp2_with fail
  go_ret2
  exact OPost.none HE.1 HOW.1 HAL.1
 have h1':(p.toList==[47])=false:=by
  rw [beq_eq_false_iff_ne]
  intro e
  rw [Go.ByteArray.toList_eq] at e
  exact h1 (ByteArray.ext (Array.toList_inj.1 e))
 have hsz:1<p.size:=by
  by_cases e:p.size=1
  ·exact absurd (one_slash e HC.1) h1
  ·omega
 clear h1
 go_enter Tryz.func133,Tryz.ntmps133
 go_wp2_with fail
 go_loopw [4,5,6] (fun v bg i wr=>∃ (k g:Nat) (done:List ByteArray) (vv:Value),vv=v/\bg = .int .i64 g/\i = .int .i64 k/\k<=p.size+1/\g<=k/\done.length<=k/\Sh (PaWay p k g done)/\Sh (wr.ownsRow w.heap.size 9 1 vv done.length (tv done))/\Sh (Below w.heap.size w wr)) (fun _ _ i _=>p.size+1 - (intOf i).toNat)
 case atStart=>exact ⟨1,1,[],_,rfl,rfl,rfl,by omega,by omega,by simp,⟨⟨fun _=>PaRel.start,fun h=>by omega⟩⟩,HOW,HAL⟩
 case round =>
  clear HOW HAL
  obtain ⟨k,g,done,v,rfl,rfl,rfl,hk,hgk,hdk,hway,hown,hbl⟩:=hrel
  have hB:=hbl.1.size
  by_cases hlt:k<p.size
  ·have c0:=Go.PlainAid.bt_nonneg p k
   have c1:=Go.PlainAid.bt_le p k
   have k1:(k:Int)<=(p.size:Int):=by omega
   have k2:(k:Int)<(p.size:Int):=by omega
   have k3:(0:Int)<=(k:Int):=by omega
   by_cases hne:bt p k=47
   ·have hne':(bt p k != 47)=false:=by rw [hne];rfl
    have hsl:=qca p g k hgk (by omega)
    have hes:(p.extract g k).size<=1048576:=by rw [ByteArray.size_extract];omega
    have HN:=Sh.mk (fun W=>qhp (p.extract g k) W hes)
    have HNE:=Sh.mk hne
    clear hne
    cases hn:nameB (p.extract g k) with
    | false =>
     have HE:=Sh.mk (hway.1.bad hsz HC.1 (by omega) (fun _=>HNE.1) hn)
     rw [hn] at HN
     clear hn
     go_wp2_with fail
     refine (HN.1 _).mono ?_
     rintro e w2 ⟨rfl,hb2⟩
     have HB2:=Sh.mk (hbl.1.trans (hb2.mono hbl.1.size))
     clear hb2
     go_wp2_with fail
     go_ret2
     exact OPost.none HE.1 (qgt HB2.1) (HB2.1.alloc HB2.1.size _)
    | true =>
     have HE:=Sh.mk (hway.1.next (by omega) (fun _=>HNE.1) hn)
     rw [hn] at HN
     clear hn
     generalize p.extract g k=x at *
     go_wp2_with fail
     refine (HN.1 _).mono ?_
     rintro e w2 ⟨rfl,hb2⟩
     have HB2:=Sh.mk (hbl.1.trans (hb2.mono hbl.1.size))
     have hB2:=HB2.1.size
     have hown2:=hown.1.kept (row:=none) ⟨hb2.os,hb2.tape,hb2.output,hb2.size,fun k hk _=>hb2.block k hk⟩ (Classical.em _)
     clear hb2 HN hway hown
     go_wp2_with (at_builtin;refine wpList_append_own _ rfl _ _ 104 rfl w.heap.size 9 i0 (.string ⟨#[]⟩) 1 16 Tryz.underlying104 hi hz0 hz1 hz2 rfl (by decide) _ _ _ rfl (hown2.alloc _) ⟨w2.heap.size,0,none⟩ 1 1 [.string x] rfl rfl (cell_one_new _ _ _) ?c2 ?c3 ?c4 ?c5 ?_)
     case c2=>first | rfl | (intro u hu;simp at hu;subst hu;rfl)
     case c3=>unfold maxLen;omega
     case c4=>omega
     case c5=>first | omega | (simp;omega)
     intro v' w4 hown' hgrow _
     rw [qkh] at hown'
     have Q1:Sh (w4.ownsRow w.heap.size 9 1 v' (done++[x]).length (tv (done++[x]))):=⟨by rw [List.length_append,List.length_singleton];exact hown'⟩
     have Q2:=Sh.mk ((HB2.1.alloc hB2 (.cells #[.string x] 9)).grown hgrow (by simp;omega) (fun j hj=>(hown2.lt j hj).1))
     clear hown' hgrow hown2
     go_wp2_with fail
     go_roundw
     case rel=>exact ⟨k+1,k+1,_,v',rfl,by go_num,by go_num,by omega,by omega,by rw [List.length_append,List.length_singleton];omega,HE,Q1,Q2⟩
     case measure=>simp [intOf];omega
   ·have hne':(bt p k != 47)=true:=by rw [bne_iff_ne];exact hne
    have HE:=Sh.mk (hway.1.step hlt hne)
    go_wp2_with fail
    go_roundw
    case rel=>exact ⟨k+1,g,done,v,rfl,rfl,by go_num,by omega,by omega,by omega,HE,hown,hbl⟩
    case measure=>simp [intOf];omega
  ·by_cases hek:k=p.size
   ·have k1:(k:Int)<=(p.size:Int):=by omega
    have k2:¬ (k:Int)<(p.size:Int):=by omega
    have hsl:=qca p g k hgk (by omega)
    have hes:(p.extract g k).size<=1048576:=by rw [ByteArray.size_extract];omega
    have HN:=Sh.mk (fun W=>qhp (p.extract g k) W hes)
    have HK:Hid (k=p.size):=hek
    clear hek
    cases hn:nameB (p.extract g k) with
    | false =>
     have HE:=Sh.mk (hway.1.bad hsz HC.1 (by omega) (fun q=>by omega) hn)
     rw [hn] at HN
     clear hn
     go_wp2_with fail
     refine (HN.1 _).mono ?_
     rintro e w2 ⟨rfl,hb2⟩
     have HB2:=Sh.mk (hbl.1.trans (hb2.mono hbl.1.size))
     clear hb2
     go_wp2_with fail
     go_ret2
     exact OPost.none HE.1 (qgt HB2.1) (HB2.1.alloc HB2.1.size _)
    | true =>
     have HE:=Sh.mk (hway.1.next (by omega) (fun q=>by omega) hn)
     rw [hn] at HN
     clear hn
     generalize p.extract g k=x at *
     go_wp2_with fail
     refine (HN.1 _).mono ?_
     rintro e w2 ⟨rfl,hb2⟩
     have HB2:=Sh.mk (hbl.1.trans (hb2.mono hbl.1.size))
     have hB2:=HB2.1.size
     have hown2:=hown.1.kept (row:=none) ⟨hb2.os,hb2.tape,hb2.output,hb2.size,fun k hk _=>hb2.block k hk⟩ (Classical.em _)
     clear hb2 HN hway hown
     go_wp2_with (at_builtin;refine wpList_append_own _ rfl _ _ 104 rfl w.heap.size 9 i0 (.string ⟨#[]⟩) 1 16 Tryz.underlying104 hi hz0 hz1 hz2 rfl (by decide) _ _ _ rfl (hown2.alloc _) ⟨w2.heap.size,0,none⟩ 1 1 [.string x] rfl rfl (cell_one_new _ _ _) ?c2 ?c3 ?c4 ?c5 ?_)
     case c2=>first | rfl | (intro u hu;simp at hu;subst hu;rfl)
     case c3=>unfold maxLen;omega
     case c4=>omega
     case c5=>first | omega | (simp;omega)
     intro v' w4 hown' hgrow _
     rw [qkh] at hown'
     have Q1:Sh (w4.ownsRow w.heap.size 9 1 v' (done++[x]).length (tv (done++[x]))):=⟨by rw [List.length_append,List.length_singleton];exact hown'⟩
     have Q2:=Sh.mk ((HB2.1.alloc hB2 (.cells #[.string x] 9)).grown hgrow (by simp;omega) (fun j hj=>(hown2.lt j hj).1))
     clear hown' hgrow hown2
     go_wp2_with fail
     go_roundw
     case rel=>exact ⟨k+1,k+1,_,v',rfl,by go_num,by go_num,by omega,by omega,by rw [List.length_append,List.length_singleton];omega,HE,Q1,Q2⟩
     case measure=>simp [intOf];omega
   ·have k1:¬ (k:Int)<=(p.size:Int):=by omega
    have hfin:=hway.1.done hsz HC.1 (by omega)
    have hown2:=hown.1
    obtain ⟨a,cap,rfl⟩:∃ a cap,v = .slice a done.length cap:=by
     rcases hown2.2 with ⟨e,h0⟩ | ⟨g,cap,_,e,_⟩
     ·exact ⟨none,0,by rw [e,h0]⟩
     ·exact ⟨_,cap,e⟩
    clear hown2
    by_cases h4:done.length<=4
    ·have HE:=Sh.mk (show splitB p=(done,true) by rw [hfin,if_pos h4])
     have h4':¬ (4:Int)<(done.length:Int):=by omega
     clear hfin hway
     go_wp2_with fail
     go_ret2
     exact OPost.some HE.1 hown.1 hbl.1
    ·have HE:=Sh.mk (show splitB p=([],false) by rw [hfin,if_neg h4])
     have h4':(4:Int)<(done.length:Int):=by omega
     clear hfin hway
     go_wp2_with fail
     go_ret2
     exact OPost.none HE.1 (qgt hbl.1) (hbl.1.alloc hbl.1.size _)
def joinA (L:List ByteArray):ByteArray:=ba ((L.map lb).map (47::·)).flatten
theorem joinA_snoc (L:List ByteArray) (x:ByteArray):joinA (L++[x])=(joinA L++⟨#[47]⟩)++x:=by
 apply ByteArray.ext
 unfold joinA
 simp
theorem qlh (L:List ByteArray):(joinA L).size=L.length+tsum L:=by
 induction L with
 | nil=>rfl
 | cons x L ih =>
  have e:joinA (x::L)=(⟨#[47]⟩:ByteArray)++x++joinA L:=by
   apply ByteArray.ext
   unfold joinA
   simp
  rw [e,ByteArray.size_append,ByteArray.size_append,ih]
  simp only [tsum,List.length_cons]
  have:(⟨#[47]⟩:ByteArray).size=1:=rfl
  omega
theorem qqn (h:L ≠ []):joinB L=joinA L:=by
 unfold joinB joinP joinA
 rw [if_neg (fun e=>h (List.map_eq_nil_iff.1 e))]
theorem specJoinPath (hv:SSee w v L lo hi) (hf:TFit L):Calls Tryz.prog 167 #[v] w fun e w'=>e = .returned (.string (joinB L))/\Below w.heap.size w w':=by
 obtain ⟨a,cap,rfl,hr⟩:=hv
 have hn:L.length+tsum L<=1048576:=hf
 by_cases h0:L=[]
 ·subst h0
  clear hr hf hn
  go_enter Tryz.func167,Tryz.ntmps167
  go_wp2_with fail
  go_ret
  exact ⟨rfl,Below.refl _ _⟩
 ·have HE:=Sh.mk (qqn h0)
  have h1:0<L.length:=List.length_pos_iff.2 h0
  have h1':((L.length:Int)==0)=false:=by rw [beq_eq_false_iff_ne];omega
  have HR:=Sh.mk hr
  clear hr h0 hf
  go_enter Tryz.func167,Tryz.ntmps167
  go_wp2_with fail
  go_loopw [3,4] (fun s i wr=>∃ (k:Nat),i = .int .i64 k/\k<=L.length/\s = .string (joinA (L.take k))/\Sh (Below w.heap.size w wr)) (fun _ i _=>L.length - (intOf i).toNat)
  case atStart=>exact ⟨0,rfl,Nat.zero_le _,rfl,⟨Below.refl _ _⟩⟩
  case round =>
   obtain ⟨k,rfl,hk,rfl,hbl⟩:=hrel
   by_cases hlt:k<L.length
   ·obtain ⟨b,off,rfl,lb',hc⟩:=qqm HR.1 (by omega)
    have d0:=(hbl.1.cell (p:=⟨b,off+k,none⟩) lb').trans (hc k hlt)
    have k0:(0:Int)<=(k:Int):=by omega
    have k1:(k:Int)<(L.length:Int):=by omega
    have hst:joinA (L.take (k+1))=(joinA (L.take k)++⟨#[47]⟩)++L.getD k ⟨#[]⟩:=by
     rw [List.take_succ_eq_append_getElem hlt,joinA_snoc]
     simp [List.getD,hlt]
    have hz1:=qlh (L.take k)
    have hz2:=qsg L k
    have hz3:(L.take k).length<=L.length:=by rw [List.length_take];omega
    have hz4:=tsum_take L k hlt
    have hz5:=qsg L (k+1)
    generalize L.getD k ⟨#[]⟩=x at *
    have hja:(joinA (L.take k)).size+x.size+1<=2097152:=by omega
    generalize joinA (L.take k)=J at *
    have HST:=Sh.mk hst
    clear hst hc hz1 hz2 hz3 hz4 hz5
    go_wp2_with fail
    go_roundw
    case rel=>exact ⟨k+1,by go_num,by omega,by rw [HST.1],hbl⟩
    case measure=>simp [intOf];omega
   ·have hlt':¬ (k:Int)<(L.length:Int):=by omega
    have HF:Sh (joinA (L.take k)=joinB L):=⟨by rw [List.take_of_length_le (by omega),HE.1]⟩
    generalize joinA (L.take k)=J at *
    go_wp2_with fail
    go_ret
    exact ⟨congrArg (fun x=>Ending.returned (.string x)) HF.1,hbl.1⟩
def qel (p:ByteArray) (w:World) (e:Ending) (w':World):Prop:=e = .returned (.tuple #[.string (qab p).1,.string (qab p).2.1,.bool (qab p).2.2])/\Below w.heap.size w w'
theorem qgv {ok:Bool} (h:splitB p=(L,ok)) (hn:ok=false\/L=[]):qab p=(⟨#[]⟩,⟨#[]⟩,false):=by
 unfold qab
 rw [h]
 rw [if_neg (fun q=>by
  rcases hn with e | e
  ·rw [e] at q;cases q.1
  ·exact q.2 e)]
theorem qli {I:List ByteArray} {x:ByteArray} (h:splitB p=(I++[x],true)):qab p=(joinB I,x,true):=by
 unfold qab
 rw [h,if_pos ⟨rfl,by simp⟩]
 simp
theorem qnz (h:∀ s ∈ L,nameB s=true) (h4:L.length<=4):TFit L:=by
 have hs:∀ s ∈ L,s.size<=8:=fun s hs=>((qeb s).1 (h s hs)).2.2
 have:tsum L<=L.length*8:=by
  clear h h4
  induction L with
  | nil=>simp [tsum]
  | cons x L ih =>
   simp only [tsum,List.length_cons,Nat.add_mul,Nat.one_mul]
   have h1:=hs x (by simp)
   have h2:=ih (fun s h=>hs s (by simp [h]))
   omega
 unfold TFit
 omega
theorem qgw {L:List Value} (h:w.ownsRow B t 1 v n L):∃ a cap,v = .slice a n cap:=by
 rcases h.2 with ⟨e,h0⟩ | ⟨g,cap,_,e,_⟩
 ·exact ⟨none,0,by rw [e,h0]⟩
 ·exact ⟨_,cap,e⟩
theorem qjn {L:List Value} (h:w.ownsRow B t 1 v n L) (hp:0<n):∃ g cap,v = .slice (some ⟨g,0,none⟩) n cap/\n<=cap:=by
 rcases h.2 with ⟨_,h0⟩ | ⟨g,cap,_,e,_,_,hc,_⟩
 ·omega
 ·exact ⟨g,cap,e,hc⟩
theorem own_part9 {g cap B n k:Nat} (hown:w.ownsRow B 9 1 (.slice (some ⟨g,0,none⟩) n cap) n (tv L)) (hk:k<=L.length):SSee w (.slice (some ⟨g,0,none⟩) k cap) (L.take k) 0 w.heap.size:=by
 have hw:=qar hown
 refine ⟨_,cap,by rw [List.length_take,Nat.min_eq_left hk],fun _=>⟨g,0,rfl,Nat.zero_le _,hw.1,hw.1,fun i v hv=>?_⟩⟩
 rw [Nat.zero_add]
 have hv':(tv L)[i]?=some v:=by
  unfold tv at hv ⊢
  rw [List.map_take] at hv
  rw [List.getElem?_take] at hv
  split at hv
  ·exact hv
  ·cases hv
 exact (hw.2 i v hv').1
theorem qdr (p:ByteArray) (w:World) (hs:p.size<=1048576):Calls Tryz.prog 131 #[.string p] w fun e w'=>qel p w e w':=by
 have HS:=Sh.mk (fun W=>qgu p W hs)
 have hnm:=qbx p
 unfold OPost at HS
 unfold qel
 obtain ⟨L,ok,hre⟩:∃ L ok,splitB p=(L,ok):=⟨_,_,rfl⟩
 rw [hre] at HS hnm
 have HN:=Sh.mk hnm
 clear hnm
 cases ok with
 | false =>
  rw [qgv hre (.inl rfl)]
  clear hre
  go_enter Tryz.func131,Tryz.ntmps131
  go_wp2_with fail
  refine (HS.1 _).mono ?_
  rintro e w1 ⟨v,rfl,ho,hb⟩
  obtain ⟨a,cap,rfl⟩:=qgw ho
  have HB:=Sh.mk hb
  clear ho hb
  go_wp2_with fail
  go_ret3
  exact ⟨rfl,HB.1⟩
 | true =>
  rcases List.eq_nil_or_concat L with rfl | ⟨I,x,rfl⟩
  ·rw [qgv hre (.inr rfl)]
   clear hre
   go_enter Tryz.func131,Tryz.ntmps131
   go_wp2_with fail
   refine (HS.1 _).mono ?_
   rintro e w1 ⟨v,rfl,ho,hb⟩
   obtain ⟨a,cap,rfl⟩:=qgw ho
   have HB:=Sh.mk hb
   clear ho hb
   go_wp2_with fail
   go_ret3
   exact ⟨rfl,HB.1⟩
  ·rw [List.concat_eq_append] at *
   rw [qli hre]
   obtain ⟨J,hJ⟩:∃ J,J=joinB I:=⟨_,rfl⟩
   have HJE:=Sh.mk hJ
   rw [<-hJ]
   clear hJ
   have h4:=HN.1.2
   have HF:Sh (TFit I):=⟨qnz (fun s h=>HN.1.1 s (List.mem_append.2 (.inl h))) (by rw [List.length_append] at h4;omega)⟩
   obtain ⟨m,hm⟩:∃ m,m=I.length:=⟨_,rfl⟩
   have HM:=Sh.mk hm
   have hm4:m<=4:=by rw [List.length_append] at h4;omega
   rw [show (I++[x],true).1.length=m+1 by simp [hm]] at HS
   clear hre h4 hm
   go_enter Tryz.func131,Tryz.ntmps131
   go_wp2_with fail
   refine (HS.1 _).mono ?_
   rintro e w1 ⟨v,rfl,ho,hb⟩
   obtain ⟨g,cap,rfl,hcap⟩:=qjn ho (by omega)
   have hw:=qar ho
   have d0:w1.cell? ⟨g,m,none⟩=some (.string x):=(hw.2 m (.string x) (by
    rw [qkb _ m (by rw [List.length_append,HM.1];simp)]
    simp [List.getD,HM.1])).1
   have hg:=hw.1
   have hsee:=own_part9 (k:=m) ho (by rw [List.length_append,HM.1];simp)
   rw [show (I++[x]).take m=I by rw [HM.1];simp] at hsee
   have HJ:=Sh.mk (fun W (hW:Below w1.heap.size w1 W)=>specJoinPath (hsee.below hW) HF.1)
   have HB:=Sh.mk hb
   have hm0:(((m+1:Nat):Int)==0)=false:=by rw [beq_eq_false_iff_ne];omega
   obtain ⟨n,hn⟩:∃ n,n=m+1:=⟨_,rfl⟩
   rw [<-hn] at hcap hm0 ⊢
   have hnm:(n:Int) - 1=(m:Int):=by omega
   have hmn:(m:Int)<(n:Int):=by omega
   have hmc:(m:Int)<=(cap:Int):=by omega
   have hm9:(0:Int)<=(m:Int):=by omega
   have hwr:IntKind.i64.wrap ((n:Int) - 1)=(m:Int):=by rw [hnm];exact IntWalk.i64_in _ ⟨by omega,by omega⟩
   rw [<-HJE.1] at HJ
   clear ho hb hw hsee hn HN HM hnm
   go_wp2_with fail
   go_region_held3 (fun w'=>w'.cell? ⟨g,m,none⟩=some (.string x))
    (first | assumption | (exact (hb9.cell (p:=⟨g,m,none⟩) hg).trans (by assumption)) | go_keep)
    (first | (go_at_call 167;refine (HJ.1 _ (by first | exact Below.refl _ _ | exact Below.drew (Below.refl _ _))).mono ?_;rintro e w9 ⟨rfl,hb9⟩))
   all_goals
    go_wp2_with fail
    go_ret3
    exact ⟨rfl,by first | exact HB.1.trans (hb9.mono HB.1.size) | exact HB.1.trans (((Below.drew (Below.refl w1.heap.size w1)).trans hb9).mono HB.1.size)⟩
end Go.Proofs.YtoglebfiobofoaaGreatDoor
/- GrwA: . -/
namespace Go.Proofs.YtoglebfiobofoaaGreatDoor
set_option maxRecDepth 100000
set_option maxHeartbeats 16000000
open Go.RowKit
attribute [local go_sem ↓] Go.wp_at_zero Go.wp_at_succ
variable {v:Value} {w:World}
structure Grow (w:World) where
 val:World
 bel:Below w.heap.size w val
instance {w:World}:Nonempty (Grow w):=⟨⟨w,Below.refl _ _⟩⟩
theorem qai {P:Program} {id:Nat} {Q:Exit->Act->World->Prop} {a:Act} {l:List Oper} (hm:P.follows .mixedOrders=true) (hB:Region.lexB .any l.toArray=true)
  (h:wpQuiet P l.toArray (fun W=>∃ X:Grow w,W=X.val) (fun a'=>∀ w',(∃ X:Grow w,w'=X.val)->Q .normal a' w') l a):(Code.region id l.toArray true).wp P Q a w:=
 wp_region_quiet (C:=fun W=>∃ X:Grow w,W=X.val) hm hB ⟨⟨w.drew,Below.drew (Below.refl _ _)⟩,rfl⟩ (by simpa using h)
theorem Grow.cell (X:Grow w) {p:Addr} {v:Value} (h:w.cell? p=some v) (hl:p.block<w.heap.size):X.val.cell? p=some v:=(X.bel.cell hl).trans h
theorem qfn {P:Program} {f:FuncId} {args:Array Value} (h:∀ W,Below w.heap.size w W->Calls P f args W fun e w'=>e = .returned v/\Below W.heap.size W w') (X:Grow w) :
  Calls P f args X.val fun e w''=>e = .returned v/\∃ Y:Grow w,w''=Y.val:=
 (h X.val X.bel).mono fun _ w'' ⟨he,hb⟩=>⟨he,⟨w'',X.bel.trans (hb.mono X.bel.size)⟩,rfl⟩
theorem calls_same {P:Program} {f:FuncId} {args:Array Value} (h:∀ W,Below w.heap.size w W->Calls P f args W fun e w'=>e = .returned v/\w'=W) (X:Grow w) :
  Calls P f args X.val fun e w''=>e = .returned v/\∃ Y:Grow w,w''=Y.val:=
 (h X.val X.bel).mono fun _ _ ⟨he,hb⟩=>⟨he,X,hb⟩
end Go.Proofs.YtoglebfiobofoaaGreatDoor
/- EdA: . -/
namespace Go.Proofs.YtoglebfiobofoaaGreatDoor
set_option maxRecDepth 100000
set_option maxHeartbeats 16000000
open Go.RowKit BigFrame
attribute [local go_sem ↓] Go.wp_at_zero Go.wp_at_succ
structure EM where
 kind:Int
 path:ByteArray
 dest:ByteArray
 num:Int
 who:Int
instance:Inhabited EM:=⟨⟨0,⟨#[]⟩,⟨#[]⟩,0,0⟩⟩
abbrev ev (e:EM):Value:=.agg #[.int .i64 e.kind,.string e.path,.string e.dest,.int .i64 e.num,.int .i64 e.who]
def qah (e:EM):List Value:=[.int .i64 e.kind,.string e.path,.string e.dest,.int .i64 e.num,.int .i64 e.who]
theorem qbv (e:EM):(qah e).length=5:=rfl
def EFit (e:EM):Prop:=e.path.size<=1048576/\e.dest.size<=1048576
def named (p:ByteArray):Bool:=(qab p).2.2
def qhi (e:EM):Bool:=(!named e.path && !(((e.kind==5)||(e.kind==6))&&(e.path.toList==[47])))||((e.kind==3) != named e.dest)||((e.kind != 3)&&(e.dest.toList != []))
def qks (e:EM):Bool:=if e.kind=5 then inI e.num 1 3&&(e.who==0) else if e.kind=6 then inI e.num 0 1000&&(e.who==0) else if e.kind=7 then inI e.num 1 200&&(e.who==0) else if e.kind=2\/e.kind=9 then (e.num==0)&&inI e.who 1 9 else (e.num==0)&&(e.who==0)
def qat (e:EM):Bool:=inI e.kind 1 10&&(if e.kind=10 then (e.path.toList==[47])&&(e.dest.toList==[])&&(e.num==0)&&(e.who==0) else !qhi e&&qks e)
theorem qmz (p:ByteArray) (w:World) (hs:p.size<=1048576):Calls Tryz.prog 130 #[.string p] w fun e w'=>e = .returned (.bool (named p))/\Below w.heap.size w w':=by
 have HC:=Sh.mk (fun W=>qdr p W hs)
 unfold qel at HC
 have e0:named p=(qab p).2.2:=rfl
 rw [e0]
 generalize (qab p).2.2=a at *
 generalize (qab p).2.1=b at *
 generalize (qab p).1=c at *
 clear hs e0
 go_enter Tryz.func130,Tryz.ntmps130
 go_wp2_with fail
 refine (HC.1 _).mono ?_
 rintro e w1 ⟨rfl,hb⟩
 go_wp2_with fail
 go_ret
 exact ⟨rfl,hb⟩
theorem qkt (e:EM) (w:World) (hf:EFit e):Calls Tryz.prog 85 #[ev e] w fun r w'=>r = .returned (.bool (qat e))/\Below w.heap.size w w':=by
 have hnp:=fun W=>qmz e.path W hf.1
 have hnt:=fun W=>qmz e.dest W hf.2
 obtain ⟨R,hR⟩:∃ R,R=qat e:=⟨_,rfl⟩
 rw [<-hR]
 obtain ⟨bad,hbad⟩:∃ b,b=qhi e:=⟨_,rfl⟩
 have hRR:R=(inI e.kind 1 10&&(if e.kind=10 then (e.path.toList==[47])&&(e.dest.toList==[])&&(e.num==0)&&(e.who==0) else !bad&&qks e)):=by rw [hR,hbad];rfl
 obtain ⟨np,hnp'⟩:∃ b,b=named e.path:=⟨_,rfl⟩
 obtain ⟨nt,hnt'⟩:∃ b,b=named e.dest:=⟨_,rfl⟩
 rw [<-hnp'] at hnp
 rw [<-hnt'] at hnt
 unfold qhi at hbad
 rw [<-hnp',<-hnt'] at hbad
 unfold qks at hRR
 have HR:=Sh.mk hRR
 have HNPC:=Sh.mk hnp
 have HNTC:=Sh.mk hnt
 have HBD:=Sh.mk hbad
 clear hf hnp hnt hR hbad hnp' hnt' hRR
 obtain ⟨kind,path,dest,num,who⟩:=e
 dsimp only at *
 by_cases h1:inI kind 1 10=true
 case neg =>
  have HF:Sh (R=false):=⟨by rw [HR.1];simp [h1]⟩
  have HI:=Sh.mk (fun W=>isInI kind 1 10 W false (by simpa using h1))
  clear h1 HR
  go_enter Tryz.func85,Tryz.ntmps85
  go_wp2_with (go_at_call 52;refine (HI.1 _).mono ?_;rintro r w1 ⟨rfl,rfl⟩)
  go_ret
  exact ⟨by rw [HF.1];rfl,(Below.refl _ _).alloc (Nat.le_refl _) _⟩
 have HI:=Sh.mk (fun W=>isInI kind 1 10 W true h1)
 have HKB:=Sh.mk (inI_iff.1 h1)
 have HIN:=Sh.mk (fun x a b W=>isInI x a b W _ rfl)
 rw [h1] at HR
 clear h1
 by_cases h10:kind=10
 ·rw [if_pos h10] at HR
  subst h10
  go_enter Tryz.func85,Tryz.ntmps85
  go_wp2_with (go_at_call 52;refine (HI.1 _).mono ?_;rintro r w1 ⟨rfl,rfl⟩)
  all_goals
   go_ret
   exact ⟨by rw [HR.1];simp [*],(Below.refl _ _).alloc (Nat.le_refl _) _⟩
 ·rw [if_neg h10] at HR
  have h10':(kind==10)=false:=by simp [h10]
  obtain ⟨st,hst⟩:∃ b,b=((kind==5)||(kind==6)):=⟨_,rfl⟩
  obtain ⟨pr,hpr⟩:∃ b,b=(path.toList==[47]):=⟨_,rfl⟩
  obtain ⟨k3,hk3⟩:∃ b,b=(kind==3):=⟨_,rfl⟩
  obtain ⟨te,hte⟩:∃ b,b=(dest.toList==[]):=⟨_,rfl⟩
  have HBD':Sh (bad=((!np && !(st&&pr))||(k3 != nt)||(!k3 && !te))):=⟨by
   rw [HBD.1,<-hst,<-hpr,<-hk3]
   have e1:(kind != 3) = !k3:=by rw [hk3];rfl
   have e2:(dest.toList != []) = !te:=by rw [hte];rfl
   rw [e1,e2]⟩
  have HST:=Sh.mk hst
  go_enter Tryz.func85,Tryz.ntmps85
  go_upto_region 5 with (go_at_call 52;refine (HI.1 _).mono ?_;rintro r w1 ⟨rfl,rfl⟩)
  refine qaa (fun W=>Below w.heap.size w W/\WCells W w.heap.size [.int .i64 kind,.string path,.string dest,.int .i64 num,.int .i64 who]) ⟨(Below.refl _ _).alloc (Nat.le_refl _) _,qad w #[.int .i64 kind,.string path,.string dest,.int .i64 num,.int .i64 who] 33⟩ ?_
  intro W hW
  have HW:=Sh.mk hW
  have c0:=(hW.2.2 0 _ rfl).1
  have lw:=hW.2.1
  have g0:∀ X:Grow W,X.val.cell? ⟨w.heap.size,0,none⟩=some (.int .i64 kind):=fun X=>X.cell c0 lw
  have g1:∀ X:Grow W,X.val.cell? ⟨w.heap.size,1,none⟩=some (.string path):=fun X=>X.cell (hW.2.2 1 _ rfl).1 lw
  have g2:∀ X:Grow W,X.val.cell? ⟨w.heap.size,2,none⟩=some (.string dest):=fun X=>X.cell (hW.2.2 2 _ rfl).1 lw
  have HNP:=Sh.mk (fun X=>qfn (w:=W) (fun W' (_:Below W.heap.size W W')=>HNPC.1 W') X)
  have HNT:=Sh.mk (fun X=>qfn (w:=W) (fun W' (_:Below W.heap.size W W')=>HNTC.1 W') X)
  clear hW HI h10
  rw [HBD'.out] at HR
  clear HBD HBD'
  go_upto_region 5 with fail
  go_cut [3] from 29 to 36 (fun b wx=>b = .bool st/\wx=W)
  case first =>
   by_cases h5:kind=5
   ·have h5':(kind==5)=true:=by simp [h5]
    have HSE:Sh (st=true):=⟨by rw [HST.1];simp [h5]⟩
    clear h5
    go_wp2_with fail
    go_meet
    case rel=>exact ⟨by rw [HSE.1],rfl⟩
   ·have h5':(kind==5)=false:=by simp [h5]
    have HSE:Sh (st=(kind==6)):=⟨by rw [HST.1];simp [h5]⟩
    clear h5
    go_wp2_with fail
    go_meet
    case rel=>exact ⟨by rw [HSE.1],rfl⟩
  case rest =>
   obtain ⟨rfl,rfl⟩:=hcut
   have HSTT:=HST
   have hpr':(path.toList==[47])=pr:=hpr.symm
   have hk3':(kind==3)=k3:=hk3.symm
   have hk3n:(kind != 3) = !k3:=by rw [hk3];rfl
   have hte':(dest.toList==[])=te:=hte.symm
   have hten:(dest.toList != []) = !te:=by rw [hte];rfl
   clear hpr hk3 hte hst c0
   go_upto_region 6 with fail
   go_cut [68] from 37 to 68 (fun b wx=>b = .bool ((!np && !(st&&pr))||(k3 != nt)||(!k3 && !te))/\Sh (Below w.heap.size w wx/\WCells wx w.heap.size [.int .i64 kind,.string path,.string dest,.int .i64 num,.int .i64 who]))
   case first =>
    clear HR HST HSTT
    cases np with
    | true =>
     cases k3 with
     | true =>
      cases nt with
      | true =>
       refine qai (by kernel_rfl) (by kernel_rfl) ?_
       repeat (go_big_quiet_step (first | (go_at_call 130;first | with_reducible exact HNP.1 _ | with_reducible exact HNT.1 _)))
       refine wpQuiet_nil ?_
       rintro _ ⟨X,rfl⟩
       go_wp2_with fail
       go_meet
       case rel=>exact ⟨rfl,⟨HW.1.1.trans (X.bel.mono HW.1.1.size),HW.1.2.grow X.bel⟩⟩
      | false =>
       refine qai (by kernel_rfl) (by kernel_rfl) ?_
       repeat (go_big_quiet_step (first | (go_at_call 130;first | with_reducible exact HNP.1 _ | with_reducible exact HNT.1 _)))
       refine wpQuiet_nil ?_
       rintro _ ⟨X,rfl⟩
       go_wp2_with fail
       go_meet
       case rel=>exact ⟨rfl,⟨HW.1.1.trans (X.bel.mono HW.1.1.size),HW.1.2.grow X.bel⟩⟩
     | false =>
      cases nt with
      | true =>
       refine qai (by kernel_rfl) (by kernel_rfl) ?_
       repeat (go_big_quiet_step (first | (go_at_call 130;first | with_reducible exact HNP.1 _ | with_reducible exact HNT.1 _)))
       refine wpQuiet_nil ?_
       rintro _ ⟨X,rfl⟩
       go_wp2_with fail
       go_meet
       case rel=>exact ⟨rfl,⟨HW.1.1.trans (X.bel.mono HW.1.1.size),HW.1.2.grow X.bel⟩⟩
      | false =>
       cases te with
       | true =>
        refine qai (by kernel_rfl) (by kernel_rfl) ?_
        repeat (go_big_quiet_step (first | (go_at_call 130;first | with_reducible exact HNP.1 _ | with_reducible exact HNT.1 _)))
        refine wpQuiet_nil ?_
        rintro _ ⟨X,rfl⟩
        go_wp2_with fail
        go_meet
        case rel=>exact ⟨rfl,⟨HW.1.1.trans (X.bel.mono HW.1.1.size),HW.1.2.grow X.bel⟩⟩
       | false =>
        refine qai (by kernel_rfl) (by kernel_rfl) ?_
        repeat (go_big_quiet_step (first | (go_at_call 130;first | with_reducible exact HNP.1 _ | with_reducible exact HNT.1 _)))
        refine wpQuiet_nil ?_
        rintro _ ⟨X,rfl⟩
        go_wp2_with fail
        go_meet
        case rel=>exact ⟨rfl,⟨HW.1.1.trans (X.bel.mono HW.1.1.size),HW.1.2.grow X.bel⟩⟩
    | false =>
     cases st with
     | true =>
      cases pr with
      | true =>
       cases k3 with
       | true =>
        cases nt with
        | true =>
         refine qai (by kernel_rfl) (by kernel_rfl) ?_
         repeat (go_big_quiet_step (first | (go_at_call 130;first | with_reducible exact HNP.1 _ | with_reducible exact HNT.1 _)))
         refine wpQuiet_nil ?_
         rintro _ ⟨X,rfl⟩
         go_wp2_with fail
         go_meet
         case rel=>exact ⟨rfl,⟨HW.1.1.trans (X.bel.mono HW.1.1.size),HW.1.2.grow X.bel⟩⟩
        | false =>
         refine qai (by kernel_rfl) (by kernel_rfl) ?_
         repeat (go_big_quiet_step (first | (go_at_call 130;first | with_reducible exact HNP.1 _ | with_reducible exact HNT.1 _)))
         refine wpQuiet_nil ?_
         rintro _ ⟨X,rfl⟩
         go_wp2_with fail
         go_meet
         case rel=>exact ⟨rfl,⟨HW.1.1.trans (X.bel.mono HW.1.1.size),HW.1.2.grow X.bel⟩⟩
       | false =>
        cases nt with
        | true =>
         refine qai (by kernel_rfl) (by kernel_rfl) ?_
         repeat (go_big_quiet_step (first | (go_at_call 130;first | with_reducible exact HNP.1 _ | with_reducible exact HNT.1 _)))
         refine wpQuiet_nil ?_
         rintro _ ⟨X,rfl⟩
         go_wp2_with fail
         go_meet
         case rel=>exact ⟨rfl,⟨HW.1.1.trans (X.bel.mono HW.1.1.size),HW.1.2.grow X.bel⟩⟩
        | false =>
         cases te with
         | true =>
          refine qai (by kernel_rfl) (by kernel_rfl) ?_
          repeat (go_big_quiet_step (first | (go_at_call 130;first | with_reducible exact HNP.1 _ | with_reducible exact HNT.1 _)))
          refine wpQuiet_nil ?_
          rintro _ ⟨X,rfl⟩
          go_wp2_with fail
          go_meet
          case rel=>exact ⟨rfl,⟨HW.1.1.trans (X.bel.mono HW.1.1.size),HW.1.2.grow X.bel⟩⟩
         | false =>
          refine qai (by kernel_rfl) (by kernel_rfl) ?_
          repeat (go_big_quiet_step (first | (go_at_call 130;first | with_reducible exact HNP.1 _ | with_reducible exact HNT.1 _)))
          refine wpQuiet_nil ?_
          rintro _ ⟨X,rfl⟩
          go_wp2_with fail
          go_meet
          case rel=>exact ⟨rfl,⟨HW.1.1.trans (X.bel.mono HW.1.1.size),HW.1.2.grow X.bel⟩⟩
      | false =>
       refine qai (by kernel_rfl) (by kernel_rfl) ?_
       repeat (go_big_quiet_step (first | (go_at_call 130;first | with_reducible exact HNP.1 _ | with_reducible exact HNT.1 _)))
       refine wpQuiet_nil ?_
       rintro _ ⟨X,rfl⟩
       go_wp2_with fail
       go_meet
       case rel=>exact ⟨rfl,⟨HW.1.1.trans (X.bel.mono HW.1.1.size),HW.1.2.grow X.bel⟩⟩
     | false =>
      refine qai (by kernel_rfl) (by kernel_rfl) ?_
      repeat (go_big_quiet_step (first | (go_at_call 130;first | with_reducible exact HNP.1 _ | with_reducible exact HNT.1 _)))
      refine wpQuiet_nil ?_
      rintro _ ⟨X,rfl⟩
      go_wp2_with fail
      go_meet
      case rel=>exact ⟨rfl,⟨HW.1.1.trans (X.bel.mono HW.1.1.size),HW.1.2.grow X.bel⟩⟩
   case rest =>
    obtain ⟨rfl,hV⟩:=hcut
    clear g0 g1 g2 HNP HNT HNPC HNTC HW HST HSTT lw hpr' hk3' hk3n hte' hten
    generalize ((!np && !(st&&pr))||(k3 != nt)||(!k3 && !te))=bd at *
    have c0:=(hV.1.2.2 0 _ rfl).1
    have c3:=(hV.1.2.2 3 _ rfl).1
    have c4:=(hV.1.2.2 4 _ rfl).1
    cases bd with
    | true =>
     have HF:Sh (R=false):=⟨by rw [HR.1];rfl⟩
     clear HR
     go_wp2_with fail
     go_ret
     exact ⟨by rw [HF.1];rfl,hV.1.1⟩
    | false =>
     by_cases k5:kind=5
     ·have HRR:Sh (R=(inI num 1 3&&(who==0))):=⟨by rw [HR.1];simp [k5]⟩
      subst k5
      clear HR
      go_wp2_with (go_at_call 52;refine (HIN.1 _ _ _ _).mono ?_;rintro r w1 ⟨rfl,rfl⟩)
      all_goals
       go_ret
       exact ⟨by rw [HRR.1];simp [*],hV.1.1⟩
     by_cases k6:kind=6
     ·have HRR:Sh (R=(inI num 0 1000&&(who==0))):=⟨by rw [HR.1];simp [k6]⟩
      subst k6
      clear HR
      go_wp2_with (go_at_call 52;refine (HIN.1 _ _ _ _).mono ?_;rintro r w1 ⟨rfl,rfl⟩)
      all_goals
       go_ret
       exact ⟨by rw [HRR.1];simp [*],hV.1.1⟩
     by_cases k7:kind=7
     ·have HRR:Sh (R=(inI num 1 200&&(who==0))):=⟨by rw [HR.1];simp [k7]⟩
      subst k7
      clear HR
      go_wp2_with (go_at_call 52;refine (HIN.1 _ _ _ _).mono ?_;rintro r w1 ⟨rfl,rfl⟩)
      all_goals
       go_ret
       exact ⟨by rw [HRR.1];simp [*],hV.1.1⟩
     by_cases k2:kind=2
     ·have HRR:Sh (R=((num==0)&&inI who 1 9)):=⟨by rw [HR.1];simp [k2]⟩
      subst k2
      clear HR
      go_wp2_with (go_at_call 52;refine (HIN.1 _ _ _ _).mono ?_;rintro r w1 ⟨rfl,rfl⟩)
      all_goals
       go_ret
       exact ⟨by rw [HRR.1];simp [*],hV.1.1⟩
     by_cases k9:kind=9
     ·have HRR:Sh (R=((num==0)&&inI who 1 9)):=⟨by rw [HR.1];simp [k9]⟩
      subst k9
      clear HR
      go_wp2_with (go_at_call 52;refine (HIN.1 _ _ _ _).mono ?_;rintro r w1 ⟨rfl,rfl⟩)
      all_goals
       go_ret
       exact ⟨by rw [HRR.1];simp [*],hV.1.1⟩
     have HRR:Sh (R=((num==0)&&(who==0))):=⟨by rw [HR.1];simp [k5,k6,k7,k2,k9]⟩
     clear HR
     have j5:(kind==5)=false:=by simp [k5]
     have j6:(kind==6)=false:=by simp [k6]
     have j7:(kind==7)=false:=by simp [k7]
     have j2:(kind==2)=false:=by simp [k2]
     have j9:(kind==9)=false:=by simp [k9]
     clear k5 k6 k7 k2 k9
     go_wp2_with (go_at_call 52;refine (HIN.1 _ _ _ _).mono ?_;rintro r w1 ⟨rfl,rfl⟩)
     all_goals
      go_ret
      exact ⟨by rw [HRR.1];simp [*],hV.1.1⟩
end Go.Proofs.YtoglebfiobofoaaGreatDoor
/- GrwB: . -/
namespace Go.Proofs.YtoglebfiobofoaaGreatDoor
set_option maxRecDepth 100000
set_option maxHeartbeats 16000000
open Go.RowKit
attribute [local go_sem ↓] Go.wp_at_zero Go.wp_at_succ
theorem qA {α:Type} (l:List α) (i:Nat) (a:α):l.toArray.setIfInBounds i a=(l.set i a).toArray:=by simp
theorem qB {α:Type} (x:α) (l:List α) (a:α):(x::l).set 0 a=a::l:=rfl
theorem qC {α:Type} (x:α) (l:List α) (n:Nat) (a:α):(x::l).set (n+1) a=x::l.set n a:=rfl
def Later (w w':World):Prop:=Below w.heap.size w w'
theorem Later.refl (w:World):Later w w:=Below.refl _ _
theorem Later.trans {a b c:World} (h:Later a b) (g:Later b c):Later a c:=Below.trans h (Below.mono g (Below.size h))
section
variable {P:Program} {ops:Array Oper} {Q:Exit->Act->World->Prop} {md:Region.Mode}
def wpL (P:Program) (md:Region.Mode) (ops:Array Oper) (Q:Exit->Act->World->Prop):Nat->Array Bool->Act->World->Prop
 | 0,l,a,w=>Region.ready md ops l=[]/\∀ x,Later w x->Q .normal a x
 | n+1,l,a,w=>∀ x,Later w x->(Region.ready md ops l=[]->Q .normal a x) /\
   ∀ i ∈ Region.ready md ops l,wpOp P ops Q i (fun a' y=>Later x y/\wpL P md ops Q n (l.setIfInBounds i true) a' y) a x
theorem qne:∀ (n:Nat) (l:Array Bool) (a:Act) (w y:World),Later w y->wpL P md ops Q n l a w->wpL P md ops Q n l a y
 | 0,_,_,_,_,hy,h=>⟨h.1,fun x hx=>h.2 x (hy.trans hx)⟩
 | _+1,_,_,_,_,hy,h=>fun x hx=>h x (hy.trans hx)
theorem qkx:∀ (n:Nat) (l:Array Bool) (a:Act) (w:World),wpL P md ops Q n l a w->wpAny P md ops Q n l a w
 | 0,_,_,w,h=>⟨h.1,h.2 w (Later.refl w)⟩
 | n+1,_,_,w,h=>⟨(h w (Later.refl w)).1,fun i hi=>wpOp_mono (fun a' y hh=>qkx n _ a' y hh.2) ((h w (Later.refl w)).2 i hi)⟩
def YL (P:Program) (ops:Array Oper) (o:Oper) (v:Value) (a:Act) (w:World):Prop:=
 (Region.wanted o (yielded ops a.tmps)=true/\∀ x,Later w x->o.quietAt P a (Later x) x v)\/(Region.wanted o (yielded ops a.tmps)=false/\v=undef)
theorem YL.later {o:Oper} {v:Value} {a:Act} {w y:World} (h:YL P ops o v a w) (hy:Later w y):YL P ops o v a y:=
 h.imp (fun q=>⟨q.1,fun x hx=>q.2 x (hy.trans hx)⟩) id
theorem YL.same {o:Oper} {v:Value} {a b:Act} {w:World} (h:YL P ops o v a w) (he:execOp b.eval o=execOp a.eval o) (hw:Region.wanted o (yielded ops b.tmps)=Region.wanted o (yielded ops a.tmps)):YL P ops o v b w:=by
 unfold YL Oper.quietAt at *
 rw [he,hw]
 exact h
theorem YL.op {i:Nat} {o:Oper} {v:Value} {a:Act} {w x:World} {K:Act->World->Prop} (hi:ops[i]?=some o) (h:YL P ops o v a w) (hx:Later w x) (hk:∀ y,Later x y->K (a.put o.dst v) y):wpOp P ops Q i K a x:=by
 unfold wpOp
 rw [hi]
 dsimp only
 rcases h with ⟨hw,hq⟩ | ⟨hw,hv⟩
 ·rw [if_pos hw]
  refine Or.inl ?_
  have q:=hq x hx
  unfold Oper.quietAt at q
  unfold Oper.wp
  revert q
  cases (execOp a.eval o).run P x with
  | halt _ _=>exact False.elim
  | ok r y =>
   cases r with
   | value u=>rintro ⟨rfl,rfl⟩;exact hk _ (Later.refl _)
   | skip=>rintro ⟨rfl,rfl⟩;exact hk _ (Later.refl _)
   | enter f args=>rintro ⟨rfl,hc⟩;exact hc.mono (by rintro _ z ⟨rfl,hz⟩;exact hk _ hz)
   | _=>exact False.elim
 ·rw [if_neg (by rw [hw];exact Bool.false_ne_true),<-hv]
  exact hk _ (Later.refl _)
def Fr (d:Option Tmp) (a b:Act):Prop:=∃ u,b=a.put d u\/∃ f,b = { a with defers:=f::a.defers }.put d u
theorem qma {j:Nat} {oj:Oper} {K:Act->World->Prop} {a:Act} {x:World} (hj:ops[j]?=some oj) (h:wpOp P ops Q j K a x):wpOp P ops Q j (fun b y=>Fr oj.dst a b/\K b y) a x:=by
 unfold wpOp at h ⊢
 rw [hj] at h ⊢
 dsimp only at h ⊢
 split
 ·rename_i hw
  rw [if_pos hw] at h
  refine h.imp_left fun q=>?_
  unfold Oper.wp at q ⊢
  revert q
  cases (execOp a.eval oj).run P x with
  | halt r y=>cases r <;> exact id
  | ok r y =>
   cases r with
   | value u=>exact fun q=>⟨⟨u,.inl rfl⟩,q⟩
   | skip=>exact fun q=>⟨⟨undef,.inl rfl⟩,q⟩
   | defer f=>exact fun q=>⟨⟨undef,.inr ⟨f,rfl⟩⟩,q⟩
   | enter f args=>exact fun q=>Calls.mono q fun e z hz=>by cases e <;> first | exact ⟨⟨_,.inl rfl⟩,hz⟩ | exact hz
   | row r args=>exact fun q=>Rows.mono q fun u z hz=>⟨⟨u,.inl rfl⟩,hz⟩
   | _=>exact id
 ·rename_i hw
  rw [if_neg hw] at h
  exact ⟨⟨undef,.inl rfl⟩,h⟩
theorem qix {j:Nat} {oi oj:Oper} {v:Value} {w:World} (hj:ops[j]?=some oj) (hap:oi.apart ops oj=true) (hsi:∀ cs b,oi.op ≠ .select cs b) (hsj:∀ cs b,oj.op ≠ .select cs b)
  (hQ:∀ c a w,Q (.panic c) (a.put oi.dst v) w->Q (.panic c) a w) {K:Act->World->Prop} {a:Act} {x:World} (hy:YL P ops oi v a w) (h:wpOp P ops Q j K (a.put oi.dst v) x) :
  wpOp P ops Q j (fun a' y=>YL P ops oi v a' w/\K (a'.put oi.dst v) y) a x:=by
 have h3:=(Oper.apart_spec hap).2.2
 refine wpOp_mono ?_ (qma hj (wpOp_putIf (S:=fun _=>False) hj hap hsi hsj hQ (hy.imp (fun q=>⟨q.1,fun _ hf=>hf.elim⟩) id) h))
 rintro b y ⟨⟨u,rfl | ⟨f,rfl⟩⟩,-,hk⟩
 ·exact ⟨hy.same (execOp_put oi hsi a oj.dst u h3) (wanted_put oi a oj.dst u h3),hk⟩
 ·have q:YL P ops oi v { a with defers:=f::a.defers } w:=hy.same rfl rfl
  exact ⟨q.same (execOp_put oi hsi _ oj.dst u h3) (wanted_put oi _ oj.dst u h3),hk⟩
theorem qdy {l:Array Bool} {i j:Nat} {oj:Oper} (hi:i ∈ Region.ready md ops l) (hj:j ∈ Region.ready md ops l) (ho:ops[j]?=some oj):∀ e ∈ oj.after,Region.binds md e=true->e.on ≠ i:=by
 obtain ⟨-,o',ho',hall⟩:=mem_ready.1 hj
 obtain rfl:oj=o':=Option.some.inj (ho.symm.trans ho')
 rintro e he hb rfl
 have q:=hall e he hb
 have z:=(mem_ready.1 hi).1
 grind
theorem qiy {i:Nat} {oi:Oper} {v:Value} (hi:ops[i]?=some oi) (hsel:∀ (j:Nat) (o:Oper) cs b,ops[j]?=some o->o.op ≠ .select cs b) (hQ:∀ c a w,Q (.panic c) (a.put oi.dst v) w->Q (.panic c) a w) :
  ∀ (n:Nat) (l:Array Bool) (a:Act) (w:World),(∀ j oj,ops[j]?=some oj->j ≠ i->l.getD j true=false->(∀ e ∈ oj.after,Region.binds md e=true->e.on ≠ i)->oi.apart ops oj=true) ->
   i ∈ Region.ready md ops l->YL P ops oi v a w->wpL P md ops Q n (l.setIfInBounds i true) (a.put oi.dst v) w->wpL P md ops Q (n+1) l a w:=by
 intro n
 induction n with
 | zero =>
  intro l a w _ hr hy H x hx
  refine ⟨fun h=>(by rw [h] at hr;cases hr),fun j hj=>?_⟩
  by_cases hji:j=i
  ·subst hji
   exact hy.op hi hx fun y hxy=>⟨hxy,qne 0 _ _ _ _ (hx.trans hxy) H⟩
  ·have q:=ready_mono hj hji
   rw [H.1] at q
   cases q
 | succ n ih =>
  intro l a w hfree hr hy H x hx
  refine ⟨fun h=>(by rw [h] at hr;cases hr),fun j hj=>?_⟩
  by_cases hji:j=i
  ·subst hji
   exact hy.op hi hx fun y hxy=>⟨hxy,qne (n+1) _ _ _ _ (hx.trans hxy) H⟩
  ·obtain ⟨hun,oj,hoj,-⟩:=mem_ready.1 hj
   have q:=qix hoj (hfree j oj hoj hji hun (qdy hr hj hoj)) (fun cs b=>hsel i oi cs b hi) (fun cs b=>hsel j oj cs b hoj) hQ hy ((H x hx).2 j (ready_mono hj hji))
   refine wpOp_mono (fun b y hb=>⟨hb.2.1,ih (l.setIfInBounds j true) b y (fun k ok hk hki hku hno=>hfree k ok hk hki ?_ hno) (ready_mono hr (Ne.symm hji)) (hb.1.later (hx.trans hb.2.1)) ?_⟩) q
   ·by_cases hjk:j=k
    ·subst hjk;exact hun
    ·rw [getD_set_ne true hjk] at hku;exact hku
   ·rw [Array.setIfInBounds_comm _ _ hji]
    exact hb.2.2
theorem qav {L r:List Oper} {i:Nat} {o:Oper} (h:L.drop i=o::r):L.toArray[i]?=some o:=by
 have q:(L.drop i)[0]?=some o:=by rw [h];rfl
 simpa using q
theorem wpL_val {L r:List Oper} {i:Nat} {oi:Oper} {v:Value} {n:Nat} {l:Array Bool} {a:Act} {w:World} (hi:L.drop i=oi::r) (hs:Region.noSelect L.toArray=true) (hf:Region.free md L.toArray l i=true) (hr:(Region.ready md L.toArray l).contains i=true)
  (hQ:∀ c a w,Q (.panic c) (a.put oi.dst v) w->Q (.panic c) a w) (hw:Region.wanted oi (yielded L.toArray a.tmps)=true) (hy:∀ x,Later w x->(execOp a.eval oi).run P x = .ok (.value v) x)
  (h:wpL P md L.toArray Q n (l.setIfInBounds i true) (a.put oi.dst v) w):wpL P md L.toArray Q (n+1) l a w:=
 qiy (qav hi) (Region.noSelect_spec hs) hQ n l a w (Region.free_spec (qav hi) hf) (by simpa using hr) (Or.inl ⟨hw,fun x hx=>by unfold Oper.quietAt;rw [hy x hx];exact ⟨rfl,rfl⟩⟩) h
theorem qaz {L r:List Oper} {i:Nat} {oi:Oper} {v:Value} {f:FuncId} {args:Array Value} {n:Nat} {l:Array Bool} {a:Act} {w:World} (hi:L.drop i=oi::r) (hs:Region.noSelect L.toArray=true) (hf:Region.free md L.toArray l i=true) (hr:(Region.ready md L.toArray l).contains i=true)
  (hQ:∀ c a w,Q (.panic c) (a.put oi.dst v) w->Q (.panic c) a w) (hw:Region.wanted oi (yielded L.toArray a.tmps)=true) (hy:∀ x,Later w x->(execOp a.eval oi).run P x = .ok (.enter f args) x)
  (hc:∀ x,Later w x->Calls P f args x fun e y=>e = .returned v/\Below x.heap.size x y)
  (h:wpL P md L.toArray Q n (l.setIfInBounds i true) (a.put oi.dst v) w):wpL P md L.toArray Q (n+1) l a w:=
 qiy (qav hi) (Region.noSelect_spec hs) hQ n l a w (Region.free_spec (qav hi) hf) (by simpa using hr) (Or.inl ⟨hw,fun x hx=>by unfold Oper.quietAt;rw [hy x hx];exact ⟨rfl,hc x hx⟩⟩) h
theorem wpL_one {L r:List Oper} {i:Nat} {oi:Oper} {n:Nat} {l:Array Bool} {a:Act} {w:World} (hr:Region.ready md L.toArray l=[i]) (hi:L.drop i=oi::r) (hw:Region.wanted oi (yielded L.toArray a.tmps)=true)
  (h:∀ x,Later w x->∃ (v:Value) (y:World),(execOp a.eval oi).run P x = .ok (.value v) y/\Later x y/\wpL P md L.toArray Q n (l.setIfInBounds i true) (a.put oi.dst v) y):wpL P md L.toArray Q (n+1) l a w:=by
 intro x hx
 rw [hr]
 refine ⟨fun h=>(by cases h),fun j hj=>?_⟩
 rw [List.mem_singleton] at hj
 subst hj
 obtain ⟨v,y,h1,h2,h3⟩:=h x hx
 unfold wpOp
 rw [qav hi]
 dsimp only
 rw [if_pos hw]
 refine Or.inl ?_
 unfold Oper.wp
 rw [h1]
 exact ⟨h2,h3⟩
theorem qbg {l:Array Bool} {a:Act} {w:World} (hr:Region.ready md ops l=[]) (h:∀ x,Later w x->Q .normal a x):∀ n,wpL P md ops Q n l a w
 | 0=>⟨hr,h⟩
 | _+1=>fun x hx=>⟨fun _=>h x hx,by rw [hr];simp⟩
theorem qag {id:Nat} {a:Act} {w:World} (hm:P.follows .mixedOrders=true) (h:wpL P .any ops Q ops.size (Array.replicate ops.size false) a w.drew):(Code.region id ops true).wp P Q a w:=
 wp_region_any hm (qkx _ _ _ _ h)
end
section
variable {P:Program} {Q:Exit->Act->World->Prop} {md:Region.Mode}
theorem qhl {L r:List Oper} {i:Nat} {oi:Oper} {f:FuncId} {args:Array Value} {chain:List PanicEntry} {n:Nat} {l:Array Bool} {a:Act} {w:World} (hr:Region.ready md L.toArray l=[i]) (hi:L.drop i=oi::r) (hw:Region.wanted oi (yielded L.toArray a.tmps)=true)
  (hy:∀ x,Later w x->(execOp a.eval oi).run P x = .ok (.enter f args) x) (hc:∀ x,Later w x->Calls P f args x fun e y=>e = .panicked chain/\Q (.panic chain) a y):wpL P md L.toArray Q (n+1) l a w:=by
 intro x hx
 rw [hr]
 refine ⟨fun h=>(by cases h),fun j hj=>?_⟩
 rw [List.mem_singleton] at hj
 subst hj
 unfold wpOp
 rw [qav hi]
 dsimp only
 rw [if_pos hw]
 refine Or.inl ?_
 unfold Oper.wp
 rw [hy x hx]
 exact (hc x hx).mono (by rintro e y ⟨rfl,hq⟩;exact hq)
end
section
variable {P:Program} {Q:Exit->Act->World->Prop} {md:Region.Mode}
theorem wpL_skip {L r:List Oper} {i:Nat} {oi:Oper} {n:Nat} {l:Array Bool} {a:Act} {w:World} (hi:L.drop i=oi::r) (hs:Region.noSelect L.toArray=true) (hf:Region.free md L.toArray l i=true) (hr:(Region.ready md L.toArray l).contains i=true)
  (hQ:∀ c a w,Q (.panic c) (a.put oi.dst undef) w->Q (.panic c) a w) (hw:Region.wanted oi (yielded L.toArray a.tmps)=false)
  (h:wpL P md L.toArray Q n (l.setIfInBounds i true) (a.put oi.dst undef) w):wpL P md L.toArray Q (n+1) l a w:=
 qiy (qav hi) (Region.noSelect_spec hs) hQ n l a w (Region.free_spec (qav hi) hf) (by simpa using hr) (Or.inr ⟨hw,rfl⟩) h
theorem wpL_v (i:Nat) {L r:List Oper} {oi:Oper} {v:Value} {n:Nat} {l:Array Bool} {a:Act} {w:World} (hi:L.drop i=oi::r) (hy:∀ x,Later w x->(execOp a.eval oi).run P x = .ok (.value v) x) (h:wpL P md L.toArray Q n (l.setIfInBounds i true) (a.put oi.dst v) w) (hs:Region.noSelect L.toArray=true:=by kernel_rfl) (hf:Region.free md L.toArray l i=true:=by kernel_rfl) (hr:(Region.ready md L.toArray l).contains i=true:=by kernel_rfl) (hQ:∀ c a w,Q (.panic c) (a.put oi.dst v) w->Q (.panic c) a w:=by exact fun _ _ _ h=>h) (hw:Region.wanted oi (yielded L.toArray a.tmps)=true:=by rfl):wpL P md L.toArray Q (n+1) l a w:=wpL_val hi hs hf hr hQ hw hy h
theorem wpL_s (i:Nat) {L r:List Oper} {oi:Oper} {n:Nat} {l:Array Bool} {a:Act} {w:World} (hi:L.drop i=oi::r) (h:wpL P md L.toArray Q n (l.setIfInBounds i true) (a.put oi.dst undef) w) (hs:Region.noSelect L.toArray=true:=by kernel_rfl) (hf:Region.free md L.toArray l i=true:=by kernel_rfl) (hr:(Region.ready md L.toArray l).contains i=true:=by kernel_rfl) (hQ:∀ c a w,Q (.panic c) (a.put oi.dst undef) w->Q (.panic c) a w:=by exact fun _ _ _ h=>h) (hw:Region.wanted oi (yielded L.toArray a.tmps)=false:=by rfl):wpL P md L.toArray Q (n+1) l a w:=wpL_skip hi hs hf hr hQ hw h
end
def vb (n:Nat):ByteArray:=⟨(W.vt n).toArray⟩
def editT (e:EM):ByteArray:=⟨#[UInt8.ofNat e.kind.toNat,UInt8.ofNat e.who.toNat]⟩++vb e.path.size++e.path++vb e.dest.size++e.dest++vb e.num.toNat
theorem qiq {e:EM} (h:qat e=true):1<=e.kind/\e.kind<=10/\0<=e.who/\e.who<=9/\0<=e.num/\e.num<=1000:=by
 unfold qat at h
 rw [Bool.and_eq_true,inI_iff] at h
 obtain ⟨⟨h1,h2⟩,h3⟩:=h
 refine ⟨h1,h2,?_⟩
 by_cases h10:e.kind=10
 ·rw [if_pos h10] at h3
  simp only [Bool.and_eq_true,beq_iff_eq] at h3
  omega
 ·rw [if_neg h10,Bool.and_eq_true] at h3
  have h4:=h3.2
  unfold qks at h4
  split at h4
  ·rw [Bool.and_eq_true,inI_iff,beq_iff_eq] at h4;omega
  ·split at h4
   ·rw [Bool.and_eq_true,inI_iff,beq_iff_eq] at h4;omega
   ·split at h4
    ·rw [Bool.and_eq_true,inI_iff,beq_iff_eq] at h4;omega
    ·split at h4
     ·rw [Bool.and_eq_true,inI_iff,beq_iff_eq] at h4;omega
     ·rw [Bool.and_eq_true,beq_iff_eq,beq_iff_eq] at h4;omega
theorem qdo {w:World} {p:Addr} {v:Value} (h:w.cell? p=some v):p.block<w.heap.size:=by
 by_cases c:p.block<w.heap.size
 ·exact c
 ·exfalso
  unfold World.cell? at h
  rw [Array.getElem?_eq_none (by omega)] at h
  simp at h
def EC (w0:World) (b:Nat) (e:EM) (w:World):Prop:=w.cell? ⟨b,0,none⟩=some (.int .i64 e.kind)/\w.cell? ⟨b,1,none⟩=some (.string e.path)/\w.cell? ⟨b,2,none⟩=some (.string e.dest)/\w.cell? ⟨b,3,none⟩=some (.int .i64 e.num)/\w.cell? ⟨b,4,none⟩=some (.int .i64 e.who)/\Sh (Below w0.heap.size w0 w)
theorem EC.below {w0:World} {b:Nat} {e:EM} {w w':World} (h:EC w0 b e w) (hb:Below w.heap.size w w'):EC w0 b e w':=
 ⟨(hb.cell (p:=⟨b,0,none⟩) (qdo h.1)).trans h.1,(hb.cell (p:=⟨b,1,none⟩) (qdo h.2.1)).trans h.2.1,(hb.cell (p:=⟨b,2,none⟩) (qdo h.2.2.1)).trans h.2.2.1,(hb.cell (p:=⟨b,3,none⟩) (qdo h.2.2.2.1)).trans h.2.2.2.1,(hb.cell (p:=⟨b,4,none⟩) (qdo h.2.2.2.2.1)).trans h.2.2.2.2.1,⟨h.2.2.2.2.2.1.trans (hb.mono h.2.2.2.2.2.1.size)⟩⟩
theorem EC.alloc {w0:World} {b:Nat} {e:EM} {w:World} (h:EC w0 b e w) (o:Obj):EC w0 b e (w.alloc o):=h.below ((Below.refl _ _).alloc (Nat.le_refl _) o)
theorem EC.drew {w0:World} {b:Nat} {e:EM} {w:World} (h:EC w0 b e w):EC w0 b e w.drew:=h.below (Below.drew (Below.refl _ _))
theorem two_cells (w:World) (b:Nat) (c1 c2:UInt8) (h0:w.cell? ⟨b,0,none⟩=some (.int .u8 (c1.toNat:Int))) (h1:w.cell? ⟨b,1,none⟩=some (.int .u8 (c2.toNat:Int))):(convert 22 9 (.slice (some ⟨b,0,none⟩) 2 2)).run Tryz.prog w = .ok (.string ⟨#[c1,c2]⟩) w:=by
 refine run_convert_bytes_back _ 22 9 5 ⟨b,0,none⟩ 2 [c1,c2] Tryz.underlying22 Tryz.underlying5 Tryz.underlying9 (fun j hj=>?_)
 have e:(⟨b,0,none⟩:Addr).add j=⟨b,j,none⟩:=by cases j <;> simp [Addr.add]
 rw [e]
 match j,hj with
 | 0,_=>exact h0
 | 1,_=>exact h1
theorem two_later (x y:World) (c1 c2:UInt8) (hy:Later (x.alloc (.cells #[.int .u8 (c1.toNat:Int),.int .u8 (c2.toNat:Int)] 5)) y):(convert 22 9 (.slice (some ⟨x.heap.size,0,none⟩) 2 2)).run Tryz.prog y = .ok (.string ⟨#[c1,c2]⟩) y:=
 two_cells _ _ c1 c2 ((Below.cell hy (p:=⟨x.heap.size,0,none⟩) (by simp)).trans (by rw [World.cell?_alloc_mark];rfl)) ((Below.cell hy (p:=⟨x.heap.size,1,none⟩) (by simp)).trans (by rw [World.cell?_alloc_mark];rfl))
theorem qro (x:Int) (h0:0<=x) (h1:x<256):IntKind.u8.wrap x=((UInt8.ofNat x.toNat).toNat:Int):=by
 rw [IntKind.wrap_u8]
 simp
 omega
theorem specEditText (e:EM) (w:World) (hf:EFit e):Calls Tryz.prog 50 #[ev e] w fun r w'=>r = .returned (.tuple #[.string (if qat e then editT e else ⟨#[]⟩),.bool (qat e)])/\Below w.heap.size w w':=by
 have HOK:=Sh.mk (fun W=>qkt e W hf)
 cases hok:qat e with
 | false =>
  rw [hok] at HOK
  clear hok
  obtain ⟨kind,path,dest,num,who⟩:=e
  go_enter Tryz.func50,Tryz.ntmps50
  go_wp2_with (go_at_call 85;refine (HOK.1 _).mono ?_;rintro e w1 ⟨rfl,hb1⟩)
  go_ret2
  exact ⟨rfl,((Below.refl _ _).alloc (Nat.le_refl _) _).trans (hb1.mono (by simp))⟩
 | true =>
  rw [hok] at HOK
  obtain ⟨n1,n2,n3,n4,n5,n6⟩:=qiq hok
  obtain ⟨f1,f2⟩:=hf
  obtain ⟨kind,path,dest,num,who⟩:=e
  dsimp only at *
  clear hok
  obtain ⟨n,rfl⟩:=Int.eq_ofNat_of_zero_le n5
  have v1:=W.vt_len path.size
  have v2:=W.vt_len dest.size
  have v3:=W.vt_len n
  have HV1:=Sh.mk (fun W=>qee path.size W (by omega))
  have HV2:=Sh.mk (fun W=>qee dest.size W (by omega))
  have HV3:=Sh.mk (fun W=>qee n W (by omega))
  have hT:editT ⟨kind,path,dest,n,who⟩=⟨#[UInt8.ofNat kind.toNat,UInt8.ofNat who.toNat]⟩++(⟨(W.vt path.size).toArray⟩:ByteArray)++path++(⟨(W.vt dest.size).toArray⟩:ByteArray)++dest++(⟨(W.vt n).toArray⟩:ByteArray):=rfl
  have t1:(⟨(W.vt path.size).toArray⟩:ByteArray).size<=2000000:=by show (W.vt path.size).toArray.size<=_;rw [List.size_toArray];omega
  have t2:(⟨(W.vt dest.size).toArray⟩:ByteArray).size<=2000000:=by show (W.vt dest.size).toArray.size<=_;rw [List.size_toArray];omega
  have t3:(⟨(W.vt n).toArray⟩:ByteArray).size<=2000000:=by show (W.vt n).toArray.size<=_;rw [List.size_toArray];omega
  have t0:(⟨#[UInt8.ofNat kind.toNat,UInt8.ofNat who.toNat]⟩:ByteArray).size<=2:=by simp [ByteArray.size]
  have hk:=qro kind (by omega) (by omega)
  have hw:=qro who (by omega) (by omega)
  generalize (⟨(W.vt path.size).toArray⟩:ByteArray)=V1 at HV1 hT t1
  generalize (⟨(W.vt dest.size).toArray⟩:ByteArray)=V2 at HV2 hT t2
  generalize (⟨(W.vt n).toArray⟩:ByteArray)=V3 at HV3 hT t3
  obtain ⟨K,hK⟩:∃ K:ByteArray,K=⟨#[UInt8.ofNat kind.toNat,UInt8.ofNat who.toNat]⟩:=⟨_,rfl⟩
  rw [<-hK] at hT t0
  generalize UInt8.ofNat kind.toNat=k1 at hk hK
  generalize UInt8.ofNat who.toNat=k2 at hw hK
  have HK:=Sh.mk hK.symm
  clear hK
  rw [hT]
  have HQ1:Sh (¬ (9223372036854775807<K.size+V1.size)):=⟨by omega⟩
  have HQ2:Sh (¬ (9223372036854775807<K.size+V1.size+path.size)):=⟨by omega⟩
  have HQ3:Sh (¬ (9223372036854775807<K.size+V1.size+path.size+V2.size)):=⟨by omega⟩
  have HQ4:Sh (¬ (9223372036854775807<K.size+V1.size+path.size+V2.size+dest.size)):=⟨by omega⟩
  have HQ5:Sh (¬ (9223372036854775807<K.size+V1.size+path.size+V2.size+dest.size+V3.size)):=⟨by omega⟩
  clear hT v1 v2 v3 t0 t1 t2 t3 n1 n2 n3 n4 n5 n6 f1 f2
  go_enter Tryz.func50,Tryz.ntmps50
  go_upto_region 3 with (go_at_call 85;refine (HOK.1 _).mono ?_;rintro e w1 ⟨rfl,hb1⟩;have hwc:=(qad w #[.int .i64 kind,.string path,.string dest,.int .i64 n,.int .i64 who] 33).grow hb1;have hbb:Below w.heap.size w w1:=((Below.refl _ _).alloc (Nat.le_refl _) _).trans (hb1.mono (by simp));have HWC:=Sh.mk (And.intro hwc hbb);clear hb1 hwc hbb)
  have HEC:EC w w.heap.size ⟨kind,path,dest,n,who⟩ w1:=⟨(HWC.1.1.2 0 _ rfl).1,(HWC.1.1.2 1 _ rfl).1,(HWC.1.1.2 2 _ rfl).1,(HWC.1.1.2 3 _ rfl).1,(HWC.1.1.2 4 _ rfl).1,⟨HWC.1.2⟩⟩
  clear HWC
  have hS:=HEC
  obtain ⟨c0,c1,c2,c3,c4,hB⟩:=HEC
  dsimp only at c0 c1 c2 c3 c4
  clear c0 c1 c2 c3 c4 hB
  have HLE:Sh (∀ x,Later w1.drew x->EC w w.heap.size ⟨kind,path,dest,n,who⟩ x):=⟨fun x hx=>(EC.drew hS).below hx⟩
  refine qag (by kernel_rfl) ?_
  refine wpL_v 0 rfl (fun x hx=>by go_simp;try with_reducible rfl) ?_
  try simp only [Act.put,qA,qB,qC]
  refine wpL_v 1 rfl (fun x hx=>by obtain ⟨c0,c1,c2,c3,c4,-⟩:=HLE.1 x hx;dsimp only at c0 c1 c2 c3 c4;go_simp;try with_reducible rfl) ?_
  try simp only [Act.put,qA,qB,qC]
  refine wpL_v 2 rfl (fun x hx=>by go_simp;try with_reducible rfl) ?_
  try simp only [Act.put,qA,qB,qC]
  refine wpL_v 3 rfl (fun x hx=>by go_simp;try with_reducible rfl) ?_
  try simp only [Act.put,qA,qB,qC]
  refine wpL_v 4 rfl (fun x hx=>by obtain ⟨c0,c1,c2,c3,c4,-⟩:=HLE.1 x hx;dsimp only at c0 c1 c2 c3 c4;go_simp;try with_reducible rfl) ?_
  try simp only [Act.put,qA,qB,qC]
  refine wpL_v 5 rfl (fun x hx=>by go_simp;try with_reducible rfl) ?_
  try simp only [Act.put,qA,qB,qC]
  refine wpL_v 8 rfl (fun x hx=>by go_simp;try with_reducible rfl) ?_
  try simp only [Act.put,qA,qB,qC]
  refine wpL_v 9 rfl (fun x hx=>by obtain ⟨c0,c1,c2,c3,c4,-⟩:=HLE.1 x hx;dsimp only at c0 c1 c2 c3 c4;go_simp;try with_reducible rfl) ?_
  try simp only [Act.put,qA,qB,qC]
  refine wpL_v 10 rfl (fun x hx=>by go_simp;try with_reducible rfl) ?_
  try simp only [Act.put,qA,qB,qC]
  refine qaz (i:=11) (v:=.string V1) (f:=93) (args:=#[.int .i64 (path.size:Nat)]) rfl (by kernel_rfl) (by kernel_rfl) (by kernel_rfl) (fun _ _ _ h=>h) (by rfl) ?hy11 (fun x _=>HV1.1 x) ?rest11
  case hy11=>(intro x hx;go_simp;try with_reducible rfl)
  try simp only [Act.put,qA,qB,qC]
  refine wpL_v 13 rfl (fun x hx=>by go_simp;try with_reducible rfl) ?_
  try simp only [Act.put,qA,qB,qC]
  refine wpL_v 14 rfl (fun x hx=>by obtain ⟨c0,c1,c2,c3,c4,-⟩:=HLE.1 x hx;dsimp only at c0 c1 c2 c3 c4;go_simp;try with_reducible rfl) ?_
  try simp only [Act.put,qA,qB,qC]
  refine wpL_v 16 rfl (fun x hx=>by go_simp;try with_reducible rfl) ?_
  try simp only [Act.put,qA,qB,qC]
  refine wpL_v 17 rfl (fun x hx=>by obtain ⟨c0,c1,c2,c3,c4,-⟩:=HLE.1 x hx;dsimp only at c0 c1 c2 c3 c4;go_simp;try with_reducible rfl) ?_
  try simp only [Act.put,qA,qB,qC]
  refine wpL_v 18 rfl (fun x hx=>by go_simp;try with_reducible rfl) ?_
  try simp only [Act.put,qA,qB,qC]
  refine qaz (i:=19) (v:=.string V2) (f:=93) (args:=#[.int .i64 (dest.size:Nat)]) rfl (by kernel_rfl) (by kernel_rfl) (by kernel_rfl) (fun _ _ _ h=>h) (by rfl) ?hy19 (fun x _=>HV2.1 x) ?rest19
  case hy19=>(intro x hx;go_simp;try with_reducible rfl)
  try simp only [Act.put,qA,qB,qC]
  refine wpL_v 21 rfl (fun x hx=>by go_simp;try with_reducible rfl) ?_
  try simp only [Act.put,qA,qB,qC]
  refine wpL_v 22 rfl (fun x hx=>by obtain ⟨c0,c1,c2,c3,c4,-⟩:=HLE.1 x hx;dsimp only at c0 c1 c2 c3 c4;go_simp;try with_reducible rfl) ?_
  try simp only [Act.put,qA,qB,qC]
  refine wpL_v 24 rfl (fun x hx=>by go_simp;try with_reducible rfl) ?_
  try simp only [Act.put,qA,qB,qC]
  refine wpL_v 25 rfl (fun x hx=>by obtain ⟨c0,c1,c2,c3,c4,-⟩:=HLE.1 x hx;dsimp only at c0 c1 c2 c3 c4;go_simp;try with_reducible rfl) ?_
  try simp only [Act.put,qA,qB,qC]
  refine qaz (i:=26) (v:=.string V3) (f:=93) (args:=#[.int .i64 n]) rfl (by kernel_rfl) (by kernel_rfl) (by kernel_rfl) (fun _ _ _ h=>h) (by rfl) ?hy26 (fun x _=>HV3.1 x) ?rest26
  case hy26=>(intro x hx;go_simp;try with_reducible rfl)
  try simp only [Act.put,qA,qB,qC]
  refine wpL_one (i:=6) (by kernel_rfl) rfl (by rfl) ?_
  intro x hx
  refine ⟨.slice (some ⟨x.heap.size,0,none⟩) 2 2,x.alloc (.cells #[.int .u8 (k1.toNat:Int),.int .u8 (k2.toNat:Int)] 5),?_,(Below.refl _ _).alloc (Nat.le_refl _) _,?_⟩
  ·go_simp
  have HX:Sh (∀ y,Later (x.alloc (.cells #[.int .u8 (k1.toNat:Int),.int .u8 (k2.toNat:Int)] 5)) y->(convert 22 9 (.slice (some ⟨x.heap.size,0,none⟩) 2 2)).run Tryz.prog y = .ok (.string K) y):=⟨fun y hy=>by
   rw [<-HK.1]
   exact two_later x y k1 k2 hy⟩
  try simp only [Act.put,qA,qB,qC]
  refine wpL_v 7 rfl (fun x hx=>by have hX:=HX.1 x hx;go_simp;try with_reducible rfl) ?_
  try simp only [Act.put,qA,qB,qC]
  refine wpL_v 12 rfl (fun x hx=>by have q:=HQ1.1;go_simp;try with_reducible rfl) ?_
  try simp only [Act.put,qA,qB,qC]
  refine wpL_v 15 rfl (fun x hx=>by have q:=HQ2.1;go_simp;try with_reducible rfl) ?_
  try simp only [Act.put,qA,qB,qC]
  refine wpL_v 20 rfl (fun x hx=>by have q:=HQ3.1;go_simp;try with_reducible rfl) ?_
  try simp only [Act.put,qA,qB,qC]
  refine wpL_v 23 rfl (fun x hx=>by have q:=HQ4.1;go_simp;try with_reducible rfl) ?_
  try simp only [Act.put,qA,qB,qC]
  refine wpL_v 27 rfl (fun x hx=>by have q:=HQ5.1;go_simp;try with_reducible rfl) ?_
  try simp only [Act.put,qA,qB,qC]
  refine wpL_v 28 rfl (fun x hx=>by go_simp;try with_reducible rfl) ?_
  try simp only [Act.put,qA,qB,qC]
  refine wpL_v 29 rfl (fun x hx=>by go_simp;try with_reducible rfl) ?_
  try simp only [Act.put,qA,qB,qC]
  refine qbg (by kernel_rfl) ?_ _
  intro y hy
  have HB:=(EC.below (HLE.1 x hx) (Later.trans (a:=x) ((Below.refl _ _).alloc (Nat.le_refl _) _) hy)).2.2.2.2.2
  go_wp2_with fail
  go_ret2
  exact ⟨rfl,HB.1⟩
end Go.Proofs.YtoglebfiobofoaaGreatDoor
/- ReadShort: . -/
namespace Go.Proofs.YtoglebfiobofoaaGreatDoor
set_option maxRecDepth 100000
set_option maxHeartbeats 16000000
open Go.RowKit
def rsV:Option (ByteArray × Nat)->Value
 | none=>.tuple #[.string ⟨#[]⟩,.int .i64 0,.bool false]
 | some (t,p)=>.tuple #[.string t,.int .i64 p,.bool true]
def qan (s:ByteArray) (a:Int):Option (ByteArray × Nat):=
 match qaq s a with
 | none=>none
 | some (n,p)=>if n<=20000/\p+n<=s.size then some (s.extract p (p+n),p+n) else none
theorem strClone (s:ByteArray) (w:World) (h:s.size<=281474976710656) :
  Calls Tryz.prog 81 #[.string s] w fun e w'=>e = .returned (.string s)/\Below w.heap.size w w':=by
 go_enter Tryz.func81,Tryz.ntmps81
 go_wp2_with fail
 refine (Tryz.stringslite_Clone s _ h).mono ?_
 rintro e w1 ⟨rfl,hb⟩
 go_wp2_with fail
 go_ret
 exact ⟨rfl,hb⟩
theorem implReadShort (s:ByteArray) (a:Int) (w:World) (hs:s.size<=1048576) :
  Calls Tryz.prog 174 #[.string s,.int .i64 a] w fun e w'=>e = .returned (rsV (qan s a))/\Below w.heap.size w w':=by
 have hc:=qjs s a w hs
 unfold qan
 cases hv:qaq s a with
 | none =>
  rw [hv] at hc
  have hc':Calls Tryz.prog 143 #[.string s,.int .i64 a] w fun e w'=>e = .returned (.tuple #[.int .i64 0,.int .i64 0,.bool false])/\w'=w:=hc
  have HC:Hid _:=hc'
  clear hc hc' hv
  go_enter Tryz.func174,Tryz.ntmps174
  go_wp2_with fail
  refine Calls.mono HC.out ?_
  rintro e w' ⟨rfl,rfl⟩
  go_wp2_with fail
  go_ret3
  exact ⟨rfl,Below.refl _ _⟩
 | some x =>
  obtain ⟨n,p⟩:=x
  obtain ⟨hn,hp⟩:=qce hv
  rw [hv] at hc
  have hc':Calls Tryz.prog 143 #[.string s,.int .i64 a] w fun e w'=>e = .returned (.tuple #[.int .i64 n,.int .i64 p,.bool true])/\w'=w:=hc
  have HC:Hid _:=hc'
  clear hc hc' hv
  show Calls _ _ _ _ fun e w'=>e = .returned (rsV (if n<=20000/\p+n<=s.size then some (s.extract p (p+n),p+n) else none))/\_
  by_cases h1:20000<n
  ·rw [if_neg (by omega)]
   go_enter Tryz.func174,Tryz.ntmps174
   go_wp2_with fail
   refine Calls.mono HC.out ?_
   rintro e w' ⟨rfl,rfl⟩
   go_wp2_with fail
   go_ret3
   exact ⟨rfl,Below.refl _ _⟩
  ·by_cases h2:s.size<p+n
   ·rw [if_neg (by omega)]
    go_enter Tryz.func174,Tryz.ntmps174
    go_wp2_with fail
    refine Calls.mono HC.out ?_
    rintro e w' ⟨rfl,rfl⟩
    go_wp2_with fail
    go_ret3
    exact ⟨rfl,Below.refl _ _⟩
   ·rw [if_pos (by omega)]
    have hsl:=qca s p (p+n) (by omega) (by omega)
    rw [show ((p+n:Nat):Int)=(p:Int)+(n:Int) from by omega] at hsl
    have hcl:(s.extract p (p+n)).size<=281474976710656:=by simp;omega
    go_enter Tryz.func174,Tryz.ntmps174
    go_wp2_with fail
    refine Calls.mono HC.out ?_
    rintro e w' ⟨rfl,rfl⟩
    go_wp2_with fail
    refine (strClone (s.extract p (p+n)) _ hcl).mono ?_
    rintro e w1 ⟨rfl,hb⟩
    go_wp2_with fail
    go_ret3
    exact ⟨rfl,hb⟩
theorem qgx (s:ByteArray) (a:Int) (w:World) (hs:s.size<=1048576) :
  Calls Tryz.prog 128 #[.string s,.int .i64 a] w fun e w'=>e = .returned (rsV (qan s a))/\Below w.heap.size w w':=by
 have hc:=qjt s a w hs
 unfold qan
 cases hv:qaq s a with
 | none =>
  rw [hv] at hc
  have hc':Calls Tryz.prog 127 #[.string s,.int .i64 a] w fun e w'=>e = .returned (.tuple #[.int .i64 0,.int .i64 0,.bool false])/\Below w.heap.size w w':=hc
  have HC:Hid _:=hc'
  clear hc hc' hv
  go_enter Tryz.func128,Tryz.ntmps128
  go_wp2_with fail
  refine Calls.mono HC.out ?_
  rintro e w' ⟨rfl,hb0⟩
  go_wp2_with fail
  go_ret3
  exact ⟨rfl,hb0⟩
 | some x =>
  obtain ⟨n,p⟩:=x
  obtain ⟨hn,hp⟩:=qce hv
  rw [hv] at hc
  have hc':Calls Tryz.prog 127 #[.string s,.int .i64 a] w fun e w'=>e = .returned (.tuple #[.int .i64 n,.int .i64 p,.bool true])/\Below w.heap.size w w':=hc
  have HC:Hid _:=hc'
  clear hc hc' hv
  show Calls _ _ _ _ fun e w'=>e = .returned (rsV (if n<=20000/\p+n<=s.size then some (s.extract p (p+n),p+n) else none))/\_
  by_cases h1:20000<n
  ·rw [if_neg (by omega)]
   go_enter Tryz.func128,Tryz.ntmps128
   go_wp2_with fail
   refine Calls.mono HC.out ?_
   rintro e w' ⟨rfl,hb0⟩
   go_wp2_with fail
   go_ret3
   exact ⟨rfl,hb0⟩
  ·by_cases h2:s.size<p+n
   ·rw [if_neg (by omega)]
    go_enter Tryz.func128,Tryz.ntmps128
    go_wp2_with fail
    refine Calls.mono HC.out ?_
    rintro e w' ⟨rfl,hb0⟩
    go_wp2_with fail
    go_ret3
    exact ⟨rfl,hb0⟩
   ·rw [if_pos (by omega)]
    have hsl:=qca s p (p+n) (by omega) (by omega)
    rw [show ((p+n:Nat):Int)=(p:Int)+(n:Int) from by omega] at hsl
    go_enter Tryz.func128,Tryz.ntmps128
    go_wp2_with fail
    refine Calls.mono HC.out ?_
    rintro e w' ⟨rfl,hb0⟩
    go_wp2_with fail
    go_ret3
    exact ⟨rfl,hb0⟩
end Go.Proofs.YtoglebfiobofoaaGreatDoor
/- EdZ: . -/
namespace Go.Proofs.YtoglebfiobofoaaGreatDoor
set_option maxRecDepth 100000
set_option maxHeartbeats 16000000
open Go.RowKit
attribute [local go_sem ↓] Go.wp_at_zero Go.wp_at_succ
def zeroE:EM:=⟨0,⟨#[]⟩,⟨#[]⟩,0,0⟩
def put5 (w:World) (A:Nat) (X:EM):World:=((((w.setCell ⟨A,0,none⟩ (.int .i64 X.kind)).setCell ⟨A,1,none⟩ (.string X.path)).setCell ⟨A,2,none⟩ (.string X.dest)).setCell ⟨A,3,none⟩ (.int .i64 X.num)).setCell ⟨A,4,none⟩ (.int .i64 X.who)
end Go.Proofs.YtoglebfiobofoaaGreatDoor
