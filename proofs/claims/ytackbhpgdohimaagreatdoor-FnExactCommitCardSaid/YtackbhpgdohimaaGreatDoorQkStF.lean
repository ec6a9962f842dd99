/- Texts of ours, laid one behind the other: StF. -/
import Derived.Test.YtackbhpgdohimaaGreatDoorQk12
import Derived.Test.YtackbhpgdohimaaGreatDoorQk10
import Derived.Test.YtackbhpgdohimaaGreatDoorQk9
/- StF: . -/
namespace Go.Proofs.YtackbhpgdohimaaGreatDoor
set_option maxRecDepth 100000
set_option maxHeartbeats 16000000
open Go.RowKit
attribute [local go_sem ↓] Go.wp_at_zero Go.wp_at_succ
section
open Go.Maps BigFrame
variable {nx:Int} {cap n:Nat} {a:Option Addr} {T:TM} {w:World}
theorem qha (id parent:Int) (name:ByteArray) (dir:Bool) (schema quota ln:Int) (loc:Option Addr) (pl pc:Nat) (writer:Int) (ps:List PM) (w:World):Calls Tryz.prog 121 #[.agg #[.int .i64 id,.int .i64 parent,.string name,.bool dir,.int .i64 schema,.int .i64 quota,.int .i64 ln,.slice loc pl pc,.int .i64 writer]] w fun e w'=>e = .returned (.int .i64 (qdo (⟨id,parent,name,dir,schema,quota,ln,ps,writer⟩:NM)))/\Below w.heap.size w w':=by
 cases dir with
 | true =>
  have HE:Sh (qdo ⟨id,parent,name,true,schema,quota,ln,ps,writer⟩=0):=⟨rfl⟩;generalize qdo ⟨id,parent,name,true,schema,quota,ln,ps,writer⟩=R at HE ⊢;go_enter Tryz.func121,Tryz.ntmps121;go_wp2_with fail;go_ret;exact ⟨by rw [HE.1];rfl,zB.alloc zL _⟩
 | false =>
  have HE:Sh (qdo ⟨id,parent,name,false,schema,quota,ln,ps,writer⟩=3):=⟨rfl⟩;generalize qdo ⟨id,parent,name,false,schema,quota,ln,ps,writer⟩=R at HE ⊢;go_enter Tryz.func121,Tryz.ntmps121;go_wp2_with fail;go_ret;exact ⟨by rw [HE.1];rfl,zB.alloc zL _⟩
theorem qeh (id parent:Int) (name:ByteArray) (dir:Bool) (schema quota ln:Int) (loc:Option Addr) (pl pc:Nat) (writer:Int) (ps:List PM) (held:Bool) (w:World):Calls Tryz.prog 124 #[.agg #[.int .i64 id,.int .i64 parent,.string name,.bool dir,.int .i64 schema,.int .i64 quota,.int .i64 ln,.slice loc pl pc,.int .i64 writer],.bool held] w fun e w'=>e = .returned (.int .i64 (qca (⟨id,parent,name,dir,schema,quota,ln,ps,writer⟩:NM) held))/\Below w.heap.size w w':=by
 obtain ⟨R,hR⟩:∃ R,R=qca (⟨id,parent,name,dir,schema,quota,ln,ps,writer⟩:NM) held:=⟨_,rfl⟩;rw [<-hR];unfold qca at hR;dsimp only at hR
 cases dir with
 | true =>
  have HE:Sh (R=3):=⟨hR⟩;clear hR;go_enter Tryz.func124,Tryz.ntmps124;go_wp2_with fail;go_ret;exact ⟨by rw [HE.1];rfl,zB.alloc zL _⟩
 | false =>
  by_cases hw:writer=0
  ·have hw1:(writer != 0)=false:=by simp [hw]
   cases held with
   | true =>
    have HE:Sh (R=6):=⟨by rw [hR,hw1];rfl⟩;clear hR hw;go_enter Tryz.func124,Tryz.ntmps124;go_wp2_with fail;go_ret;exact ⟨by rw [HE.1];rfl,zB.alloc zL _⟩
   | false =>
    have HE:Sh (R=0):=⟨by rw [hR,hw1];rfl⟩;clear hR hw;go_enter Tryz.func124,Tryz.ntmps124;go_wp2_with fail;go_ret;exact ⟨by rw [HE.1];rfl,zB.alloc zL _⟩
  ·have hw1:(writer != 0)=true:=by simp [hw]
   cases held with
   | true =>
    have HE:Sh (R=0):=⟨by rw [hR,hw1];rfl⟩;clear hR hw;go_enter Tryz.func124,Tryz.ntmps124;go_wp2_with fail;go_ret;exact ⟨by rw [HE.1];rfl,zB.alloc zL _⟩
   | false =>
    have HE:Sh (R=6):=⟨by rw [hR,hw1];rfl⟩;clear hR hw;go_enter Tryz.func124,Tryz.ntmps124;go_wp2_with fail;go_ret;exact ⟨by rw [HE.1];rfl,zB.alloc zL _⟩
structure SeeT (w:World) (a:Option Addr) (n cap:Nat) (nx:Int) (T:TM):Prop where
 ok:qae T=true
 see:∃ lo hi,TSee w (.agg #[.slice a n cap,.int .i64 nx]) T lo hi
theorem SeeT.below {w w':World} (h:SeeT w a n cap nx T) (hb:Below w.heap.size w w'):SeeT w' a n cap nx T:=⟨h.ok,by obtain ⟨lo,hi,q⟩:=h.see;exact ⟨lo,hi,q.below hb⟩⟩
theorem SeeT.find (h:SeeT w a n cap nx T) (p:ByteArray) (hp:p.size<=1048576):Calls Tryz.prog 65 #[.agg #[.slice a n cap,.int .i64 nx],.string p] w fun e w'=>e = .returned (.int .i64 (findX T p))/\Below w.heap.size w w':=by
 obtain ⟨lo,hi,q⟩:=h.see;exact implFindPath w _ T lo hi p q (qgg h.ok) (qgr h.ok) (TP.of h.ok).nz hp
theorem SeeT.used (h:SeeT w a n cap nx T) (c:Int):Calls Tryz.prog 161 #[.agg #[.slice a n cap,.int .i64 nx],.int .i64 c] w fun e w'=>e = .returned (.int .i64 (usedX T c))/\Below w.heap.size w w':=by
 obtain ⟨lo,hi,q⟩:=h.see;exact qhp w _ T lo hi c q (qgg h.ok) (qgr h.ok)
theorem SeeT.room (h:SeeT w a n cap nx T) (c m:Int) (hc:(Lit.int .i64 c).wf=true):Calls Tryz.prog 162 #[.agg #[.slice a n cap,.int .i64 nx],.int .i64 c,.int .i64 m] w fun e w'=>e = .returned (.bool (roomX T c m))/\Below w.heap.size w w':=by
 obtain ⟨lo,hi,q⟩:=h.see;exact implRoomFor w _ T lo hi c m q (qgg h.ok) (qgr h.ok) hc
theorem SeeT.blw (h:SeeT w a n cap nx T) (c:Int):Calls Tryz.prog 160 #[.agg #[.slice a n cap,.int .i64 nx],.int .i64 c] w fun e w'=>IPost (qap T c) w e w':=by
 obtain ⟨lo,hi,q⟩:=h.see;exact qki w _ T lo hi c q (qgg h.ok) (qgr h.ok)
theorem SeeT.node (h:SeeT w a n cap nx T) (c:Int) (hc:(Lit.int .i64 c).wf=true):Calls Tryz.prog 158 #[.agg #[.slice a n cap,.int .i64 nx],.int .i64 c] w fun e w'=>∃ G,e = .returned (ptrV ((fid T.nodes c).map G))/\Below w.heap.size w w'/\Nd w' T.nodes G:=by
 obtain ⟨lo,hi,q⟩:=h.see;refine (qiq w _ T lo hi c q (qgg h.ok) (qgr h.ok) hc).mono ?_;rintro e w' ⟨o,rfl,hb,hc⟩;rcases hc with ⟨hx,_⟩ | ⟨_,G,rfl,hnd⟩
 ·rw [h.ok] at hx;cases hx
 ·exact ⟨G,rfl,hb,hnd⟩
attribute [local irreducible] nodeOk qae atI qap usedX roomX findX
theorem quotaRefusal_any (id parent:Int) (name:ByteArray) (dir:Bool) (schema quota ln:Int) (loc:Option Addr) (pl pc:Nat) (writer:Int) (ps:List PM) (q:Int) {w:World} {a:Option Addr} {n cap:Nat} {nx:Int} {T:TM} (h:SeeT w a n cap nx T):Calls Tryz.prog 122 #[.agg #[.slice a n cap,.int .i64 nx],.agg #[.int .i64 id,.int .i64 parent,.string name,.bool dir,.int .i64 schema,.int .i64 quota,.int .i64 ln,.slice loc pl pc,.int .i64 writer],.int .i64 q] w fun e w'=>e = .returned (.int .i64 (qfo T (⟨id,parent,name,dir,schema,quota,ln,ps,writer⟩:NM) q))/\Below w.heap.size w w':=by
 obtain ⟨R,hR⟩:∃ R,R=qfo T (⟨id,parent,name,dir,schema,quota,ln,ps,writer⟩:NM) q:=⟨_,rfl⟩;rw [<-hR];unfold qfo at hR;dsimp only at hR;have HD:=zS (fun W=>qha id parent name dir schema quota ln loc pl pc writer ps W);have HU:=zS (fun W (hb:Below w.heap.size w W)=>(h.below hb).used id);obtain ⟨dr,hdr⟩:∃ dr,dr=qdo (⟨id,parent,name,dir,schema,quota,ln,ps,writer⟩:NM):=⟨_,rfl⟩;obtain ⟨us,hus⟩:∃ us,us=usedX T id:=⟨_,rfl⟩;rw [<-hdr] at hR HD;rw [<-hus] at hR HU;have HR:=zS hR;clear hR hdr hus h;go_enter Tryz.func122,Tryz.ntmps122;go_upto_region 1 with fail;obtain ⟨tb,htb⟩:∃ tb,tb=w.heap.size:=⟨_,rfl⟩;obtain ⟨xb,hxb⟩:∃ xb,xb=w.heap.size+1:=⟨_,rfl⟩;refine qaa (fun W=>MB w W [(xb,[.int .i64 id,.int .i64 parent,.string name,.bool dir,.int .i64 schema,.int .i64 quota,.int .i64 ln,.slice loc pl pc,.int .i64 writer]),(tb,[.slice a n cap,.int .i64 nx])]) (by rw [hxb,htb];exact MB.two w #[.slice a n cap,.int .i64 nx] #[.int .i64 id,.int .i64 parent,.string name,.bool dir,.int .i64 schema,.int .i64 quota,.int .i64 ln,.slice loc pl pc,.int .i64 writer] 37 90) ?_;intro W1 hW1;have HM:=zS hW1;rw [<-hxb,<-htb];clear hW1 hxb htb;obtain ⟨x0,x1⟩:=bwb2 ((HM.1.at 1 rfl).1);obtain ⟨y0,y1,y2,y3,y4,y5,y6,y7,y8⟩:=bwb9 ((HM.1.at 0 rfl).1)
 by_cases hd0:dr=0
 case neg =>
  have hd1:(dr != 0)=true:=by simp [hd0]
  have HE:Sh (R=dr):=⟨by rw [HR.1,if_pos hd0]⟩;clear hd0;go_wp2_with (go_at_call 121;refine (HD.1 _).mono ?_;rintro e w5 ⟨rfl,hb5⟩;replace HM:=zS (HM.1.below hb5);clear hb5 x0 x1 y0 y1 y2 y3 y4 y5 y6 y7 y8);go_ret;exact ⟨by rw [HE.1];rfl,HM.1.bel⟩
 case pos =>
  have hd1:(dr != 0)=false:=by simp [hd0]
  have HE:Sh (R=if 0<q/\q<us then 5 else 0):=⟨by rw [HR.1,if_neg (by simp [hd0])]⟩;clear hd0
  by_cases q0:0<q
  ·have q1:decide (0<q)=true:=by simp [q0]
   by_cases q2:q<us
   ·have q3:decide (q<us)=true:=by simp [q2]
    have HE2:Sh (R=5):=⟨by rw [HE.1,if_pos ⟨q0,q2⟩]⟩
    go_wp2_with (first
     | (go_at_call 121;refine (HD.1 _).mono ?_;rintro e w5 ⟨rfl,hb5⟩;replace HM:=zS (HM.1.below hb5);clear hb5 x0 x1 y0 y1 y2 y3 y4 y5 y6 y7 y8;have x0:=((HM.1.at 1 rfl).1.2 0 _ rfl).1;have x1:=((HM.1.at 1 rfl).1.2 1 _ rfl).1;have y0:=((HM.1.at 0 rfl).1.2 0 _ rfl).1;have y1:=((HM.1.at 0 rfl).1.2 1 _ rfl).1;have y2:=((HM.1.at 0 rfl).1.2 2 _ rfl).1;have y3:=((HM.1.at 0 rfl).1.2 3 _ rfl).1;have y4:=((HM.1.at 0 rfl).1.2 4 _ rfl).1;have y5:=((HM.1.at 0 rfl).1.2 5 _ rfl).1;have y6:=((HM.1.at 0 rfl).1.2 6 _ rfl).1;have y7:=((HM.1.at 0 rfl).1.2 7 _ rfl).1;have y8:=((HM.1.at 0 rfl).1.2 8 _ rfl).1)
     | (go_at_call 161;refine (HU.1 _ HM.1.bel).mono ?_;rintro e w6 ⟨rfl,hb6⟩;replace HM:=zS (HM.1.below hb6);clear hb6 x0 x1 y0 y1 y2 y3 y4 y5 y6 y7 y8))
    go_ret;exact ⟨by rw [HE2.1];rfl,HM.1.bel⟩
   ·have q3:decide (q<us)=false:=by simp [q2]
    have HE2:Sh (R=0):=⟨by rw [HE.1,if_neg (fun h=>q2 h.2)]⟩
    go_wp2_with (first
     | (go_at_call 121;refine (HD.1 _).mono ?_;rintro e w5 ⟨rfl,hb5⟩;replace HM:=zS (HM.1.below hb5);clear hb5 x0 x1 y0 y1 y2 y3 y4 y5 y6 y7 y8;have x0:=((HM.1.at 1 rfl).1.2 0 _ rfl).1;have x1:=((HM.1.at 1 rfl).1.2 1 _ rfl).1;have y0:=((HM.1.at 0 rfl).1.2 0 _ rfl).1;have y1:=((HM.1.at 0 rfl).1.2 1 _ rfl).1;have y2:=((HM.1.at 0 rfl).1.2 2 _ rfl).1;have y3:=((HM.1.at 0 rfl).1.2 3 _ rfl).1;have y4:=((HM.1.at 0 rfl).1.2 4 _ rfl).1;have y5:=((HM.1.at 0 rfl).1.2 5 _ rfl).1;have y6:=((HM.1.at 0 rfl).1.2 6 _ rfl).1;have y7:=((HM.1.at 0 rfl).1.2 7 _ rfl).1;have y8:=((HM.1.at 0 rfl).1.2 8 _ rfl).1)
     | (go_at_call 161;refine (HU.1 _ HM.1.bel).mono ?_;rintro e w6 ⟨rfl,hb6⟩;replace HM:=zS (HM.1.below hb6);clear hb6 x0 x1 y0 y1 y2 y3 y4 y5 y6 y7 y8))
    go_ret;exact ⟨by rw [HE2.1];rfl,HM.1.bel⟩
  ·have q1:decide (0<q)=false:=by simp [q0]
   have HE2:Sh (R=0):=⟨by rw [HE.1,if_neg (fun h=>q0 h.1)]⟩;go_wp2_with (go_at_call 121;refine (HD.1 _).mono ?_;rintro e w5 ⟨rfl,hb5⟩;replace HM:=zS (HM.1.below hb5);clear hb5 x0 x1 y0 y1 y2 y3 y4 y5 y6 y7 y8;have x0:=((HM.1.at 1 rfl).1.2 0 _ rfl).1;have x1:=((HM.1.at 1 rfl).1.2 1 _ rfl).1;have y0:=((HM.1.at 0 rfl).1.2 0 _ rfl).1;have y1:=((HM.1.at 0 rfl).1.2 1 _ rfl).1;have y2:=((HM.1.at 0 rfl).1.2 2 _ rfl).1;have y3:=((HM.1.at 0 rfl).1.2 3 _ rfl).1;have y4:=((HM.1.at 0 rfl).1.2 4 _ rfl).1;have y5:=((HM.1.at 0 rfl).1.2 5 _ rfl).1;have y6:=((HM.1.at 0 rfl).1.2 6 _ rfl).1;have y7:=((HM.1.at 0 rfl).1.2 7 _ rfl).1;have y8:=((HM.1.at 0 rfl).1.2 8 _ rfl).1);go_ret;exact ⟨by rw [HE2.1];rfl,HM.1.bel⟩
theorem addRefusal_any (id parent:Int) (name:ByteArray) (dir:Bool) (schema quota ln:Int) (loc:Option Addr) (pl pc:Nat) (writer:Int) (ps:List PM) (l:Int) {w:World} {a:Option Addr} {n cap:Nat} {nx:Int} {T:TM} (h:SeeT w a n cap nx T) (hid:(Lit.int .i64 id).wf=true) (hln:0<=ln/\ln<=1000) (hl:0<=l/\l<=1000):Calls Tryz.prog 123 #[.agg #[.slice a n cap,.int .i64 nx],.agg #[.int .i64 id,.int .i64 parent,.string name,.bool dir,.int .i64 schema,.int .i64 quota,.int .i64 ln,.slice loc pl pc,.int .i64 writer],.int .i64 l] w fun e w'=>e = .returned (.int .i64 (qdk T (⟨id,parent,name,dir,schema,quota,ln,ps,writer⟩:NM) l))/\Below w.heap.size w w':=by
 obtain ⟨R,hR⟩:∃ R,R=qdk T (⟨id,parent,name,dir,schema,quota,ln,ps,writer⟩:NM) l:=⟨_,rfl⟩;rw [<-hR];unfold qdk at hR;dsimp only at hR;have HD:=zS (fun W=>qeh id parent name dir schema quota ln loc pl pc writer ps true W);have HU:=zS (fun W (hb:Below w.heap.size w W)=>(h.below hb).room id l hid);obtain ⟨dr,hdr⟩:∃ dr,dr=qca (⟨id,parent,name,dir,schema,quota,ln,ps,writer⟩:NM) true:=⟨_,rfl⟩;obtain ⟨us,hus⟩:∃ us,us=roomX T id l:=⟨_,rfl⟩;rw [<-hdr] at hR HD;rw [<-hus] at hR HU;have HR:=zS hR;have hw1:IntKind.i64.wrap (ln+l)=ln+l:=IntWalk.i64_in _ ⟨by omega,by omega⟩;clear hR hdr hus h hid;go_enter Tryz.func123,Tryz.ntmps123;go_upto_region 1 with fail;obtain ⟨tb,htb⟩:∃ tb,tb=w.heap.size:=⟨_,rfl⟩;obtain ⟨xb,hxb⟩:∃ xb,xb=w.heap.size+1:=⟨_,rfl⟩;refine qaa (fun W=>MB w W [(xb,[.int .i64 id,.int .i64 parent,.string name,.bool dir,.int .i64 schema,.int .i64 quota,.int .i64 ln,.slice loc pl pc,.int .i64 writer]),(tb,[.slice a n cap,.int .i64 nx])]) (by rw [hxb,htb];exact MB.two w #[.slice a n cap,.int .i64 nx] #[.int .i64 id,.int .i64 parent,.string name,.bool dir,.int .i64 schema,.int .i64 quota,.int .i64 ln,.slice loc pl pc,.int .i64 writer] 37 90) ?_;intro W1 hW1;have HM:=zS hW1;rw [<-hxb,<-htb];clear hW1 hxb htb;obtain ⟨x0,x1⟩:=bwb2 ((HM.1.at 1 rfl).1);obtain ⟨y0,y1,y2,y3,y4,y5,y6,y7,y8⟩:=bwb9 ((HM.1.at 0 rfl).1)
 by_cases hd0:dr=0
 case neg =>
  have hd1:(dr != 0)=true:=by simp [hd0]
  have HE:Sh (R=dr):=⟨by rw [HR.1,if_pos hd0]⟩;clear hd0;go_wp2_with (go_at_call 124;refine (HD.1 _).mono ?_;rintro e w5 ⟨rfl,hb5⟩;replace HM:=zS (HM.1.below hb5);clear hb5 x0 x1 y0 y1 y2 y3 y4 y5 y6 y7 y8);go_ret;exact ⟨by rw [HE.1];rfl,HM.1.bel⟩
 case pos =>
  have hd1:(dr != 0)=false:=by simp [hd0]
  have HE:Sh (R=if us=false\/1000<ln+l then 5 else 0):=⟨by rw [HR.1,if_neg (by simp [hd0])]⟩;clear hd0
  cases us with
  | false =>
   have HE2:Sh (R=5):=⟨by rw [HE.1,if_pos (.inl rfl)]⟩
   go_wp2_with (first
    | (go_at_call 124;refine (HD.1 _).mono ?_;rintro e w5 ⟨rfl,hb5⟩;replace HM:=zS (HM.1.below hb5);clear hb5 x0 x1 y0 y1 y2 y3 y4 y5 y6 y7 y8;have x0:=((HM.1.at 1 rfl).1.2 0 _ rfl).1;have x1:=((HM.1.at 1 rfl).1.2 1 _ rfl).1;have y0:=((HM.1.at 0 rfl).1.2 0 _ rfl).1;have y1:=((HM.1.at 0 rfl).1.2 1 _ rfl).1;have y2:=((HM.1.at 0 rfl).1.2 2 _ rfl).1;have y3:=((HM.1.at 0 rfl).1.2 3 _ rfl).1;have y4:=((HM.1.at 0 rfl).1.2 4 _ rfl).1;have y5:=((HM.1.at 0 rfl).1.2 5 _ rfl).1;have y6:=((HM.1.at 0 rfl).1.2 6 _ rfl).1;have y7:=((HM.1.at 0 rfl).1.2 7 _ rfl).1;have y8:=((HM.1.at 0 rfl).1.2 8 _ rfl).1)
    | (go_at_call 162;refine (HU.1 _ HM.1.bel).mono ?_;rintro e w6 ⟨rfl,hb6⟩;replace HM:=zS (HM.1.below hb6);clear hb6 x0 x1 y0 y1 y2 y3 y4 y5 y6 y7 y8;have x0:=((HM.1.at 1 rfl).1.2 0 _ rfl).1;have x1:=((HM.1.at 1 rfl).1.2 1 _ rfl).1;have y0:=((HM.1.at 0 rfl).1.2 0 _ rfl).1;have y1:=((HM.1.at 0 rfl).1.2 1 _ rfl).1;have y2:=((HM.1.at 0 rfl).1.2 2 _ rfl).1;have y3:=((HM.1.at 0 rfl).1.2 3 _ rfl).1;have y4:=((HM.1.at 0 rfl).1.2 4 _ rfl).1;have y5:=((HM.1.at 0 rfl).1.2 5 _ rfl).1;have y6:=((HM.1.at 0 rfl).1.2 6 _ rfl).1;have y7:=((HM.1.at 0 rfl).1.2 7 _ rfl).1;have y8:=((HM.1.at 0 rfl).1.2 8 _ rfl).1))
   go_ret;exact ⟨by rw [HE2.1];rfl,HM.1.bel⟩
  | true =>
   by_cases q2:1000<ln+l
   ·have q3:decide (1000<ln+l)=true:=by simp [q2]
    have HE2:Sh (R=5):=⟨by rw [HE.1,if_pos (.inr q2)]⟩
    go_wp2_with (first
     | (go_at_call 124;refine (HD.1 _).mono ?_;rintro e w5 ⟨rfl,hb5⟩;replace HM:=zS (HM.1.below hb5);clear hb5 x0 x1 y0 y1 y2 y3 y4 y5 y6 y7 y8;have x0:=((HM.1.at 1 rfl).1.2 0 _ rfl).1;have x1:=((HM.1.at 1 rfl).1.2 1 _ rfl).1;have y0:=((HM.1.at 0 rfl).1.2 0 _ rfl).1;have y1:=((HM.1.at 0 rfl).1.2 1 _ rfl).1;have y2:=((HM.1.at 0 rfl).1.2 2 _ rfl).1;have y3:=((HM.1.at 0 rfl).1.2 3 _ rfl).1;have y4:=((HM.1.at 0 rfl).1.2 4 _ rfl).1;have y5:=((HM.1.at 0 rfl).1.2 5 _ rfl).1;have y6:=((HM.1.at 0 rfl).1.2 6 _ rfl).1;have y7:=((HM.1.at 0 rfl).1.2 7 _ rfl).1;have y8:=((HM.1.at 0 rfl).1.2 8 _ rfl).1)
     | (go_at_call 162;refine (HU.1 _ HM.1.bel).mono ?_;rintro e w6 ⟨rfl,hb6⟩;replace HM:=zS (HM.1.below hb6);clear hb6 x0 x1 y0 y1 y2 y3 y4 y5 y6 y7 y8;have x0:=((HM.1.at 1 rfl).1.2 0 _ rfl).1;have x1:=((HM.1.at 1 rfl).1.2 1 _ rfl).1;have y0:=((HM.1.at 0 rfl).1.2 0 _ rfl).1;have y1:=((HM.1.at 0 rfl).1.2 1 _ rfl).1;have y2:=((HM.1.at 0 rfl).1.2 2 _ rfl).1;have y3:=((HM.1.at 0 rfl).1.2 3 _ rfl).1;have y4:=((HM.1.at 0 rfl).1.2 4 _ rfl).1;have y5:=((HM.1.at 0 rfl).1.2 5 _ rfl).1;have y6:=((HM.1.at 0 rfl).1.2 6 _ rfl).1;have y7:=((HM.1.at 0 rfl).1.2 7 _ rfl).1;have y8:=((HM.1.at 0 rfl).1.2 8 _ rfl).1))
    go_ret;exact ⟨by rw [HE2.1];rfl,HM.1.bel⟩
   ·have q3:decide (1000<ln+l)=false:=by simp [q2]
    have HE2:Sh (R=0):=⟨by rw [HE.1,if_neg (by rintro (h | h);cases h;exact q2 h)]⟩
    go_wp2_with (first
     | (go_at_call 124;refine (HD.1 _).mono ?_;rintro e w5 ⟨rfl,hb5⟩;replace HM:=zS (HM.1.below hb5);clear hb5 x0 x1 y0 y1 y2 y3 y4 y5 y6 y7 y8;have x0:=((HM.1.at 1 rfl).1.2 0 _ rfl).1;have x1:=((HM.1.at 1 rfl).1.2 1 _ rfl).1;have y0:=((HM.1.at 0 rfl).1.2 0 _ rfl).1;have y1:=((HM.1.at 0 rfl).1.2 1 _ rfl).1;have y2:=((HM.1.at 0 rfl).1.2 2 _ rfl).1;have y3:=((HM.1.at 0 rfl).1.2 3 _ rfl).1;have y4:=((HM.1.at 0 rfl).1.2 4 _ rfl).1;have y5:=((HM.1.at 0 rfl).1.2 5 _ rfl).1;have y6:=((HM.1.at 0 rfl).1.2 6 _ rfl).1;have y7:=((HM.1.at 0 rfl).1.2 7 _ rfl).1;have y8:=((HM.1.at 0 rfl).1.2 8 _ rfl).1)
     | (go_at_call 162;refine (HU.1 _ HM.1.bel).mono ?_;rintro e w6 ⟨rfl,hb6⟩;replace HM:=zS (HM.1.below hb6);clear hb6 x0 x1 y0 y1 y2 y3 y4 y5 y6 y7 y8;have x0:=((HM.1.at 1 rfl).1.2 0 _ rfl).1;have x1:=((HM.1.at 1 rfl).1.2 1 _ rfl).1;have y0:=((HM.1.at 0 rfl).1.2 0 _ rfl).1;have y1:=((HM.1.at 0 rfl).1.2 1 _ rfl).1;have y2:=((HM.1.at 0 rfl).1.2 2 _ rfl).1;have y3:=((HM.1.at 0 rfl).1.2 3 _ rfl).1;have y4:=((HM.1.at 0 rfl).1.2 4 _ rfl).1;have y5:=((HM.1.at 0 rfl).1.2 5 _ rfl).1;have y6:=((HM.1.at 0 rfl).1.2 6 _ rfl).1;have y7:=((HM.1.at 0 rfl).1.2 7 _ rfl).1;have y8:=((HM.1.at 0 rfl).1.2 8 _ rfl).1))
    go_ret;exact ⟨by rw [HE2.1];rfl,HM.1.bel⟩
theorem qsr (h:qae T=true) {p:ByteArray} (h0:findX T p ≠ 0):fid T.nodes (findX T p)=some (plc T (findX T p)):=by
 obtain ⟨h1,h2,_⟩:=qeo h h0;have:=(qee h).1.fid h1;rw [<-qev h1,h2] at this;exact this
theorem qqt (h:qae T=true):fid T.nodes 0=none:=(qee h).1.zero
theorem wf_find (h:qae T=true) (p:ByteArray):(Lit.int .i64 (findX T p)).wf=true:=by
 by_cases h0:findX T p=0
 ·rw [h0];exact qdv (by omega)
 ·obtain ⟨_,h2,h3⟩:=qeo h h0
  rw [<-h2];exact qdv (qga h h3)
theorem qer (p:ByteArray) (hp:p.size<=1048576) {w:World} {a:Option Addr} {n cap:Nat} {nx:Int} {T:TM} (h:SeeT w a n cap nx T):Calls Tryz.prog 119 #[.agg #[.string p,.string (qab p).1,.string (qab p).2.1],.agg #[.slice a n cap,.int .i64 nx]] w fun e w'=>e = .returned (.int .i64 (qcu T p))/\Below w.heap.size w w':=by
 obtain ⟨R,hR⟩:∃ R,R=qcu T p:=⟨_,rfl⟩;rw [<-hR];unfold qcu at hR;have hsm:=qbf p;have HF:=zS (fun W (hb:Below w.heap.size w W)=>(h.below hb).find (qab p).1 (by omega));have HP:=zS (fun W (hb:Below w.heap.size w W)=>(h.below hb).find p hp);have hu:findX T (qab p).1=upX T p:=rfl;have HN:=zS (fun W (hb:Below w.heap.size w W)=>(h.below hb).node (upX T p) (by rw [<-hu];exact wf_find h.ok _));simp only [hu] at HF
 have HFD:Sh ((upX T p=0/\fid T.nodes (upX T p)=none)\/(upX T p ≠ 0/\plc T (upX T p)<T.nodes.length/\fid T.nodes (upX T p)=some (plc T (upX T p)))):=⟨by
  by_cases h0:upX T p=0
  ·left;exact ⟨h0,by rw [h0];exact qqt h.ok⟩
  ·right;exact ⟨h0,(qeo h.ok h0).1,qsr h.ok h0⟩⟩
 generalize (qab p).1=up at HF hsm ⊢;generalize (qab p).2.1=nm at hsm ⊢;obtain ⟨u,huu⟩:∃ u,u=upX T p:=⟨_,rfl⟩;obtain ⟨fx,hfx⟩:∃ fx,fx=findX T p:=⟨_,rfl⟩;rw [<-huu] at hR HF HN HFD;rw [<-hfx] at hR HP;have HR:=zS hR;clear hR huu hfx hu hsm h hp;go_enter Tryz.func119,Tryz.ntmps119;go_upto_region 1 with fail;obtain ⟨pb,hpb⟩:∃ pb,pb=w.heap.size:=⟨_,rfl⟩;obtain ⟨tb,htb⟩:∃ tb,tb=w.heap.size+1:=⟨_,rfl⟩;refine qaa (fun W=>MB w W [(tb,[.slice a n cap,.int .i64 nx]),(pb,[.string p,.string up,.string nm])]) (by rw [htb,hpb];exact MB.two w #[.string p,.string up,.string nm] #[.slice a n cap,.int .i64 nx] 174 37) ?_;intro W1 hW1;have HM:=zS hW1;rw [<-htb,<-hpb];clear hW1 htb hpb
 have HLE:Sh (∀ x,Later W1.drew x->x.cell? ⟨tb,0,none⟩=some (.slice a n cap)/\x.cell? ⟨tb,1,none⟩=some (.int .i64 nx)/\x.cell? ⟨pb,1,none⟩=some (.string up)):=⟨fun x hx=>by
  have M:=HM.1.below (Below.trans zD hx)
  exact ⟨((M.at 0 rfl).1.2 0 _ rfl).1,((M.at 0 rfl).1.2 1 _ rfl).1,((M.at 1 rfl).1.2 1 _ rfl).1⟩⟩
 have HBX:Sh (∀ x,Later W1.drew x->Below w.heap.size w x):=⟨fun x hx=>(HM.1.below (Below.trans zD hx)).bel⟩;refine qas 7 (by kernel_rfl) ?_;refine wpK_v 0 rfl (fun x hx=>by obtain ⟨d0,d1,d2⟩:=HLE.1 x hx;go_simp;try with_reducible rfl) ?_
 try simp only [Act.put,qA,qB,qC]
 refine wpK_v 1 rfl (fun x hx=>by obtain ⟨d0,d1,d2⟩:=HLE.1 x hx;go_simp;try with_reducible rfl) ?_
 try simp only [Act.put,qA,qB,qC]
 refine wpK_v 2 rfl (fun x hx=>by obtain ⟨d0,d1,d2⟩:=HLE.1 x hx;go_simp;try with_reducible rfl) ?_
 try simp only [Act.put,qA,qB,qC]
 refine wpK_v 3 rfl (fun x hx=>by obtain ⟨d0,d1,d2⟩:=HLE.1 x hx;go_simp;try with_reducible rfl) ?_
 try simp only [Act.put,qA,qB,qC]
 refine qem (i:=4) (v:=.int .i64 u) (f:=65) (args:=#[.agg #[.slice a n cap,.int .i64 nx],.string up]) rfl (by kernel_rfl) (by kernel_rfl) (by kernel_rfl) (by kernel_rfl) (fun _ _ _ h=>h) (by rfl) ?hya4 (fun x hx=>HF.1 x (HBX.1 x hx)) ?resta4
 case hya4=>(intro x hx;obtain ⟨d0,d1,d2⟩:=HLE.1 x hx;go_simp;try with_reducible rfl)
 try simp only [Act.put,qA,qB,qC]
 refine qeb (f:=158) (args:=#[.agg #[.slice a n cap,.int .i64 nx],.int .i64 u]) (i:=5) (by kernel_rfl) rfl (by rfl) (fun x hx=>by obtain ⟨d0,d1,d2⟩:=HLE.1 x hx;go_simp) (fun x hx=>(HN.1 x (HBX.1 x hx)).mono ?_);rintro e y ⟨G,rfl,hby,hnd⟩;refine ⟨_,rfl,hby,?_⟩;have HND:=zS hnd;have HMY:=zS (HM.1.below ((Below.trans zD hx:Below W1.heap.size W1 x).trans (hby.mono (Below.trans zD hx:Below W1.heap.size W1 x).size)));clear hnd hby hx HLE HBX HM
 try simp only [Act.put,qA,qB,qC]
 refine wpK_v 6 rfl (fun x hx=>by go_simp;try with_reducible rfl) ?_
 try simp only [Act.put,qA,qB,qC]
 refine qmr (by kernel_rfl) ?_ _;intro z hz;replace HMY:=zS (HMY.1.below hz);replace HND:=zS (HND.1.below hz);clear hz;rcases HFD.1 with ⟨h0,hf⟩ | ⟨h0,hkl,hf⟩
 ·rw [hf,Option.map_none,qcg]
  have HE:Sh (R=1):=⟨by rw [HR.1,if_pos h0]⟩;clear h0 hf;go_wp2_with fail;go_ret;exact ⟨by rw [HE.1];rfl,HMY.1.bel⟩
 ·rw [hf,Option.map_some,qcf]
  obtain ⟨k,hk⟩:∃ k,k=plc T u:=⟨_,rfl⟩;rw [<-hk] at hkl HR ⊢;have c3:=(HND.1.cells k hkl).2.2.2.1;have hnd9:ndAt T k=T.nodes[k]:=qev hkl;rw [<-hnd9] at c3;obtain ⟨dr,hdr⟩:∃ dr,dr=(ndAt T k).dir:=⟨_,rfl⟩;rw [<-hdr] at c3 HR;obtain ⟨x0,x1⟩:=bwb2 ((HMY.1.at 0 rfl).1);have y0:=((HMY.1.at 1 rfl).1.2 0 _ rfl).1;clear hf hk hnd9 hdr hkl
  cases dr with
  | false =>
   have HE:Sh (R=3):=⟨by rw [HR.1,if_neg h0,if_pos rfl]⟩;clear h0;go_wp2_with fail;go_ret;exact ⟨by rw [HE.1];rfl,HMY.1.bel⟩
  | true =>
   have HE:Sh (R=if fx ≠ 0 then 2 else 0):=⟨by rw [HR.1,if_neg h0,if_neg (by simp)]⟩;clear h0
   by_cases hfx:fx=0
   ·have q1:(fx != 0)=false:=by simp [hfx]
    have HE2:Sh (R=0):=⟨by rw [HE.1,if_neg (by simp [hfx])]⟩;clear hfx;go_wp2_with (go_at_call 65;refine (HP.1 _ HMY.1.bel).mono ?_;rintro e w5 ⟨rfl,hb5⟩;replace HMY:=zS (HMY.1.below hb5);clear hb5 x0 x1 y0 c3);go_ret;exact ⟨by rw [HE2.1];rfl,HMY.1.bel⟩
   ·have q1:(fx != 0)=true:=by simp [hfx]
    have HE2:Sh (R=2):=⟨by rw [HE.1,if_pos hfx]⟩;clear hfx;go_wp2_with (go_at_call 65;refine (HP.1 _ HMY.1.bel).mono ?_;rintro e w5 ⟨rfl,hb5⟩;replace HMY:=zS (HMY.1.below hb5);clear hb5 x0 x1 y0 c3);go_ret;exact ⟨by rw [HE2.1];rfl,HMY.1.bel⟩
theorem moveRefusal_any (id parent:Int) (name:ByteArray) (dir:Bool) (schema quota ln:Int) (loc:Option Addr) (pl pc:Nat) (writer:Int) (p:ByteArray) (hp:p.size<=1048576) {w:World} {a:Option Addr} {n cap:Nat} {nx:Int} {T:TM} (h:SeeT w a n cap nx T):Calls Tryz.prog 120 #[.agg #[.slice a n cap,.int .i64 nx],.agg #[.int .i64 id,.int .i64 parent,.string name,.bool dir,.int .i64 schema,.int .i64 quota,.int .i64 ln,.slice loc pl pc,.int .i64 writer],.agg #[.string p,.string (qab p).1,.string (qab p).2.1]] w fun e w'=>e = .returned (.int .i64 (qfz T id p))/\Below w.heap.size w w':=by
 obtain ⟨R,hR⟩:∃ R,R=qfz T id p:=⟨_,rfl⟩;rw [<-hR];unfold qfz at hR;have hsm:=qbf p;have HF:=zS (fun W (hb:Below w.heap.size w W)=>(h.below hb).find (qab p).1 (by omega));have hu:findX T (qab p).1=upX T p:=rfl;have HPR:=zS (fun W (hb:Below w.heap.size w W)=>qer p hp (h.below hb));have HBL:=zS (fun W (hb:Below w.heap.size w W)=>(h.below hb).blw id);have hbl:=qfd T id;simp only [hu] at HF;generalize (qab p).1=up at HF HPR hsm ⊢;generalize (qab p).2.1=nm at hsm HPR ⊢;obtain ⟨u,huu⟩:∃ u,u=upX T p:=⟨_,rfl⟩;obtain ⟨pr,hpr⟩:∃ pr,pr=qcu T p:=⟨_,rfl⟩;obtain ⟨B,hB⟩:∃ B,B=qap T id:=⟨_,rfl⟩;rw [<-huu] at hR HF;rw [<-hpr] at hR HPR;rw [<-hB] at hR HBL hbl;unfold IPost at HBL;have HR:=zS hR;clear hR huu hpr hB hu hsm h hp;go_enter Tryz.func120,Tryz.ntmps120;go_upto_region 1 with fail;obtain ⟨tb,htb⟩:∃ tb,tb=w.heap.size:=⟨_,rfl⟩;obtain ⟨xb,hxb⟩:∃ xb,xb=w.heap.size+1:=⟨_,rfl⟩;obtain ⟨pb,hpb⟩:∃ pb,pb=w.heap.size+1+1:=⟨_,rfl⟩;refine qaa (fun W=>MB w W [(pb,[.string p,.string up,.string nm]),(xb,[.int .i64 id,.int .i64 parent,.string name,.bool dir,.int .i64 schema,.int .i64 quota,.int .i64 ln,.slice loc pl pc,.int .i64 writer]),(tb,[.slice a n cap,.int .i64 nx])]) (by rw [hpb,hxb,htb];exact MB.three w #[.slice a n cap,.int .i64 nx] #[.int .i64 id,.int .i64 parent,.string name,.bool dir,.int .i64 schema,.int .i64 quota,.int .i64 ln,.slice loc pl pc,.int .i64 writer] #[.string p,.string up,.string nm] 37 90 174) ?_;intro W1 hW1;have HM:=zS hW1;rw [<-hpb,<-hxb,<-htb];clear hW1 hxb htb hpb;obtain ⟨x0,x1⟩:=bwb2 ((HM.1.at 2 rfl).1);obtain ⟨z0,z1,z2⟩:=bwb3 ((HM.1.at 0 rfl).1)
 by_cases hp0:pr=0
 case neg =>
  have q1:(pr != 0)=true:=by simp [hp0]
  have HE:Sh (R=pr):=⟨by rw [HR.1,if_pos hp0]⟩;clear hp0;go_wp2_with (go_at_call 119;refine (HPR.1 _ HM.1.bel).mono ?_;rintro e w5 ⟨rfl,hb5⟩;replace HM:=zS (HM.1.below hb5);clear hb5 x0 x1 z0 z1 z2);go_ret;exact ⟨by rw [HE.1];rfl,HM.1.bel⟩
 case pos =>
 have q1:(pr != 0)=false:=by simp [hp0]
 have HE:Sh (R=if B.contains u=true then 7 else 0):=⟨by rw [HR.1,if_neg (by simp [hp0])]⟩;clear hp0 HR;go_upto_region 4 with (go_at_call 119;refine (HPR.1 _ HM.1.bel).mono ?_;rintro e w5 ⟨rfl,hb5⟩;replace HM:=zS (HM.1.below hb5);clear hb5 x0 x1 z0 z1 z2)
 have HLE:Sh (∀ x,Later w5.drew x->x.cell? ⟨tb,0,none⟩=some (.slice a n cap)/\x.cell? ⟨tb,1,none⟩=some (.int .i64 nx)/\x.cell? ⟨xb,0,none⟩=some (.int .i64 id)/\x.cell? ⟨pb,1,none⟩=some (.string up)):=⟨fun x hx=>by
  have M:=HM.1.below (Below.trans zD hx)
  exact ⟨((M.at 2 rfl).1.2 0 _ rfl).1,((M.at 2 rfl).1.2 1 _ rfl).1,((M.at 1 rfl).1.2 0 _ rfl).1,((M.at 0 rfl).1.2 1 _ rfl).1⟩⟩
 have HBX:Sh (∀ x,Later w5.drew x->Below w.heap.size w x):=⟨fun x hx=>(HM.1.below (Below.trans zD hx)).bel⟩;refine qas 9 (by kernel_rfl) ?_;refine wpK_v 0 rfl (fun x hx=>by obtain ⟨d0,d1,d2,d3⟩:=HLE.1 x hx;go_simp;try with_reducible rfl) ?_
 try simp only [Act.put,qA,qB,qC]
 refine wpK_v 1 rfl (fun x hx=>by obtain ⟨d0,d1,d2,d3⟩:=HLE.1 x hx;go_simp;try with_reducible rfl) ?_
 try simp only [Act.put,qA,qB,qC]
 refine wpK_v 2 rfl (fun x hx=>by obtain ⟨d0,d1,d2,d3⟩:=HLE.1 x hx;go_simp;try with_reducible rfl) ?_
 try simp only [Act.put,qA,qB,qC]
 refine wpK_v 4 rfl (fun x hx=>by obtain ⟨d0,d1,d2,d3⟩:=HLE.1 x hx;go_simp;try with_reducible rfl) ?_
 try simp only [Act.put,qA,qB,qC]
 refine wpK_v 5 rfl (fun x hx=>by obtain ⟨d0,d1,d2,d3⟩:=HLE.1 x hx;go_simp;try with_reducible rfl) ?_
 try simp only [Act.put,qA,qB,qC]
 refine wpK_v 6 rfl (fun x hx=>by obtain ⟨d0,d1,d2,d3⟩:=HLE.1 x hx;go_simp;try with_reducible rfl) ?_
 try simp only [Act.put,qA,qB,qC]
 refine qeb (f:=160) (args:=#[.agg #[.slice a n cap,.int .i64 nx],.int .i64 id]) (i:=3) (by kernel_rfl) rfl (by rfl) (fun x hx=>by obtain ⟨d0,d1,d2,d3⟩:=HLE.1 x hx;go_simp) (fun x hx=>(HBL.1 x (HBX.1 x hx)).mono ?_);rintro e y ⟨bv,rfl,hba,hby⟩;refine ⟨_,rfl,hby,?_⟩;obtain ⟨ba9,bc,rfl,hcr⟩:=hba.crow;have HCR:Sh (∀ W,Below y.heap.size y W->CRow W ba9 (ics B)):=⟨fun W hb=>hcr.stays hb⟩;have HMY:=zS (HM.1.below ((Below.trans zD hx:Below w5.heap.size w5 x).trans (hby.mono (Below.trans zD hx:Below w5.heap.size w5 x).size)));have HCO:Sh (∀ W,Below y.heap.size y W->Calls Tryz.prog 159 #[.slice ba9 B.length bc,.int .i64 u] W fun e w'=>e = .returned (.bool (B.contains u))/\w'=W):=⟨fun W hb=>qfu bc u (HCR.1 W hb) (by omega)⟩;obtain ⟨co,hco⟩:∃ co,co=B.contains u:=⟨_,rfl⟩;rw [<-hco] at HCO HE;generalize B.length=bm at HCO ⊢;clear hba hby hx HLE HBX HM hcr HCR hco hbl
 try simp only [Act.put,qA,qB,qC]
 refine qem (i:=7) (v:=.int .i64 u) (f:=65) (args:=#[.agg #[.slice a n cap,.int .i64 nx],.string up]) rfl (by kernel_rfl) (by kernel_rfl) (by kernel_rfl) (by kernel_rfl) (fun _ _ _ h=>h) (by rfl) ?hy7 (fun x hx=>HF.1 x (HMY.1.below hx).bel) ?rest7
 case hy7=>(intro x hx;go_simp;try with_reducible rfl)
 try simp only [Act.put,qA,qB,qC]
 refine qem (i:=8) (v:=.bool co) (f:=159) (args:=#[.slice ba9 bm bc,.int .i64 u]) rfl (by kernel_rfl) (by kernel_rfl) (by kernel_rfl) (by kernel_rfl) (fun _ _ _ h=>h) (by rfl) ?hy8 (fun x hx=>(HCO.1 x hx).mono (by rintro e z ⟨rfl,rfl⟩;exact ⟨rfl,zB⟩)) ?rest8
 case hy8=>(intro x hx;go_simp;try with_reducible rfl)
 try simp only [Act.put,qA,qB,qC]
 refine qmr (by kernel_rfl) ?_ _;intro z hz;replace HMY:=zS (HMY.1.below hz);clear hz HCO
 cases co with
 | true =>
  have HE2:Sh (R=7):=⟨by rw [HE.1,if_pos rfl]⟩;go_wp2_with fail;go_ret;exact ⟨by rw [HE2.1];rfl,HMY.1.bel⟩
 | false =>
  have HE2:Sh (R=0):=⟨by rw [HE.1,if_neg (by simp)]⟩;go_wp2_with fail;go_ret;exact ⟨by rw [HE2.1];rfl,HMY.1.bel⟩
end
end Go.Proofs.YtackbhpgdohimaaGreatDoor
