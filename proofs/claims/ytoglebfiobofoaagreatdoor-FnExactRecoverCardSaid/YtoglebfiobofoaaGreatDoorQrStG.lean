/- Texts of ours, laid one behind the other: StG. -/
import Derived.Test.YtoglebfiobofoaaGreatDoorQrStF
import Derived.Test.YtoglebfiobofoaaGreatDoorQrStI
/- StG: . -/
namespace Go.Proofs.YtoglebfiobofoaaGreatDoor
set_option maxRecDepth 100000
set_option maxHeartbeats 16000000
open Go.RowKit Go.Maps BigFrame
attribute [local go_sem ↓] Go.wp_at_zero Go.wp_at_succ
attribute [local irreducible] qcg qfc qcu qeq qcr qbq
abbrev TyN (t u:TypeId) (z:Value):Prop:=∀ (v:Value) (W:World),(Instr.typeAssert (.iface t v) 171 u true).run Tryz.prog W = .ok (.tuple #[z,.bool false]) W
abbrev TyY (t:TypeId):Prop:=∀ (v:Value) (W:World),(Instr.typeAssert (.iface t v) 171 t true).run Tryz.prog W = .ok (.tuple #[v,.bool true]) W
abbrev tz0:Value:=.agg #[.string ⟨#[]⟩,.string ⟨#[]⟩,.string ⟨#[]⟩]
abbrev tz1:Value:=.agg #[.string ⟨#[]⟩,.string ⟨#[]⟩,.string ⟨#[]⟩,.int .i64 0]
abbrev tz2:Value:=.agg #[.string ⟨#[]⟩,.string ⟨#[]⟩,.string ⟨#[]⟩,.string ⟨#[]⟩]
abbrev tz3:Value:=.agg #[.string ⟨#[]⟩,.int .i64 0]
abbrev tz4:Value:=.agg #[.string ⟨#[]⟩]
theorem as1_1:TyY 221:=fun _ _=>by kernel_rfl
theorem as2_1:TyN 223 221 tz0:=fun _ _=>by kernel_rfl
theorem as3_1:TyN 225 221 tz0:=fun _ _=>by kernel_rfl
theorem as4_1:TyN 227 221 tz0:=fun _ _=>by kernel_rfl
theorem as5_1:TyN 229 221 tz0:=fun _ _=>by kernel_rfl
theorem as6_1:TyN 231 221 tz0:=fun _ _=>by kernel_rfl
theorem as7_1:TyN 233 221 tz0:=fun _ _=>by kernel_rfl
theorem as8_1:TyN 234 221 tz0:=fun _ _=>by kernel_rfl
theorem as9_1:TyN 236 221 tz0:=fun _ _=>by kernel_rfl
theorem as10_1:TyN 237 221 tz0:=fun _ _=>by kernel_rfl
theorem as2_2:TyY 223:=fun _ _=>by kernel_rfl
theorem as3_2:TyN 225 223 tz1:=fun _ _=>by kernel_rfl
theorem as4_2:TyN 227 223 tz1:=fun _ _=>by kernel_rfl
theorem as5_2:TyN 229 223 tz1:=fun _ _=>by kernel_rfl
theorem as6_2:TyN 231 223 tz1:=fun _ _=>by kernel_rfl
theorem as7_2:TyN 233 223 tz1:=fun _ _=>by kernel_rfl
theorem as8_2:TyN 234 223 tz1:=fun _ _=>by kernel_rfl
theorem as9_2:TyN 236 223 tz1:=fun _ _=>by kernel_rfl
theorem as10_2:TyN 237 223 tz1:=fun _ _=>by kernel_rfl
theorem as3_3:TyY 225:=fun _ _=>by kernel_rfl
theorem as4_3:TyN 227 225 tz2:=fun _ _=>by kernel_rfl
theorem as5_3:TyN 229 225 tz2:=fun _ _=>by kernel_rfl
theorem as6_3:TyN 231 225 tz2:=fun _ _=>by kernel_rfl
theorem as7_3:TyN 233 225 tz2:=fun _ _=>by kernel_rfl
theorem as8_3:TyN 234 225 tz2:=fun _ _=>by kernel_rfl
theorem as9_3:TyN 236 225 tz2:=fun _ _=>by kernel_rfl
theorem as10_3:TyN 237 225 tz2:=fun _ _=>by kernel_rfl
theorem as4_5:TyN 227 229 tz3:=fun _ _=>by kernel_rfl
theorem as5_5:TyY 229:=fun _ _=>by kernel_rfl
theorem as6_5:TyN 231 229 tz3:=fun _ _=>by kernel_rfl
theorem as7_5:TyN 233 229 tz3:=fun _ _=>by kernel_rfl
theorem as8_5:TyN 234 229 tz3:=fun _ _=>by kernel_rfl
theorem as9_5:TyN 236 229 tz3:=fun _ _=>by kernel_rfl
theorem as10_5:TyN 237 229 tz3:=fun _ _=>by kernel_rfl
theorem as4_6:TyN 227 231 tz3:=fun _ _=>by kernel_rfl
theorem as6_6:TyY 231:=fun _ _=>by kernel_rfl
theorem as7_6:TyN 233 231 tz3:=fun _ _=>by kernel_rfl
theorem as8_6:TyN 234 231 tz3:=fun _ _=>by kernel_rfl
theorem as9_6:TyN 236 231 tz3:=fun _ _=>by kernel_rfl
theorem as10_6:TyN 237 231 tz3:=fun _ _=>by kernel_rfl
theorem as1_7:TyN 221 233 tz3:=fun _ _=>by kernel_rfl
theorem as2_7:TyN 223 233 tz3:=fun _ _=>by kernel_rfl
theorem as3_7:TyN 225 233 tz3:=fun _ _=>by kernel_rfl
theorem as4_7:TyN 227 233 tz3:=fun _ _=>by kernel_rfl
theorem as5_7:TyN 229 233 tz3:=fun _ _=>by kernel_rfl
theorem as6_7:TyN 231 233 tz3:=fun _ _=>by kernel_rfl
theorem as7_7:TyY 233:=fun _ _=>by kernel_rfl
theorem as8_7:TyN 234 233 tz3:=fun _ _=>by kernel_rfl
theorem as9_7:TyN 236 233 tz3:=fun _ _=>by kernel_rfl
theorem as10_7:TyN 237 233 tz3:=fun _ _=>by kernel_rfl
theorem as4_8:TyN 227 234 tz4:=fun _ _=>by kernel_rfl
theorem as8_8:TyY 234:=fun _ _=>by kernel_rfl
theorem as9_8:TyN 236 234 tz4:=fun _ _=>by kernel_rfl
theorem as10_8:TyN 237 234 tz4:=fun _ _=>by kernel_rfl
theorem as4_9:TyN 227 236 tz3:=fun _ _=>by kernel_rfl
theorem as9_9:TyY 236:=fun _ _=>by kernel_rfl
theorem as10_9:TyN 237 236 tz3:=fun _ _=>by kernel_rfl
theorem as1_10:TyN 221 237 tz4:=fun _ _=>by kernel_rfl
theorem as2_10:TyN 223 237 tz4:=fun _ _=>by kernel_rfl
theorem as3_10:TyN 225 237 tz4:=fun _ _=>by kernel_rfl
theorem as4_10:TyN 227 237 tz4:=fun _ _=>by kernel_rfl
theorem as5_10:TyN 229 237 tz4:=fun _ _=>by kernel_rfl
theorem as6_10:TyN 231 237 tz4:=fun _ _=>by kernel_rfl
theorem as8_10:TyN 234 237 tz4:=fun _ _=>by kernel_rfl
theorem as9_10:TyN 236 237 tz4:=fun _ _=>by kernel_rfl
theorem as10_10:TyY 237:=fun _ _=>by kernel_rfl
attribute [local go_sem] as1_1 as2_1 as3_1 as4_1 as5_1 as6_1 as7_1 as8_1 as9_1 as10_1 as2_2 as3_2 as4_2 as5_2 as6_2 as7_2 as8_2 as9_2 as10_2 as3_3 as4_3 as5_3 as6_3 as7_3 as8_3 as9_3 as10_3 as4_5 as5_5 as6_5 as7_5 as8_5 as9_5 as10_5 as4_6 as6_6 as7_6 as8_6 as9_6 as10_6 as1_7 as2_7 as3_7 as4_7 as5_7 as6_7 as7_7 as8_7 as9_7 as10_7 as4_8 as8_8 as9_8 as10_8 as4_9 as9_9 as10_9 as1_10 as2_10 as3_10 as4_10 as5_10 as6_10 as8_10 as9_10 as10_10
theorem refusal1 (id parent:Int) (name:ByteArray) (dir:Bool) (schema quota ln:Int) (loc:Option Addr) (pl pc:Nat) (writer:Int) (_ps:List PM) (path:ByteArray) (hp:path.size<=1048576) {w:World} {a:Option Addr} {n cap:Nat} {nx:Int} {T:TM} (h:SeeT w a n cap nx T):Calls Tryz.prog 124 #[.agg #[.slice a n cap,.int .i64 nx],.agg #[.int .i64 id,.int .i64 parent,.string name,.bool dir,.int .i64 schema,.int .i64 quota,.int .i64 ln,.slice loc pl pc,.int .i64 writer],.iface 221 (.agg #[.string path,.string (qab path).1,.string (qab path).2.1])] w fun e w'=>e = .returned (.int .i64 (qcg T path))/\Below w.heap.size w w':=by
 have HF:=Sh.mk (fun W (hb:Below w.heap.size w W)=>qds path hp (h.below hb))
 generalize (qab path).1=up at HF ⊢
 generalize (qab path).2.1=nm at HF ⊢
 obtain ⟨R,hR⟩:∃ R,R=qcg T path:=⟨_,rfl⟩
 rw [<-hR] at HF ⊢
 clear hR
 go_enter Tryz.func124,Tryz.ntmps124
 go_upto_region 1 with fail
 obtain ⟨tb,htb⟩:∃ tb,tb=w.heap.size:=⟨_,rfl⟩
 obtain ⟨xb,hxb⟩:∃ xb,xb=w.heap.size+1:=⟨_,rfl⟩
 refine qaa (fun W=>MB w W [(xb,[.int .i64 id,.int .i64 parent,.string name,.bool dir,.int .i64 schema,.int .i64 quota,.int .i64 ln,.slice loc pl pc,.int .i64 writer]),(tb,[.slice a n cap,.int .i64 nx])]) (by rw [hxb,htb];exact MB.two w #[.slice a n cap,.int .i64 nx] #[.int .i64 id,.int .i64 parent,.string name,.bool dir,.int .i64 schema,.int .i64 quota,.int .i64 ln,.slice loc pl pc,.int .i64 writer] 42 87) ?_
 intro W1 hW1
 have HM:=Sh.mk hW1
 rw [<-hxb,<-htb]
 clear hW1 hxb htb
 go_upto_region 4 with fail
 obtain ⟨rb,hrb⟩:∃ rb,rb=W1.heap.size:=⟨_,rfl⟩
 refine qaa (fun W=>MB w W [(rb,[.string path,.string up,.string nm]),(xb,[.int .i64 id,.int .i64 parent,.string name,.bool dir,.int .i64 schema,.int .i64 quota,.int .i64 ln,.slice loc pl pc,.int .i64 writer]),(tb,[.slice a n cap,.int .i64 nx])]) (by rw [hrb];exact HM.1.new #[.string path,.string up,.string nm] 221) ?_
 intro W2 hW2
 replace HM:=Sh.mk hW2
 rw [<-hrb]
 clear hW2 hrb
 have z0:=((HM.1.at 0 rfl).1.2 0 _ rfl).1
 have z1:=((HM.1.at 0 rfl).1.2 1 _ rfl).1
 have z2:=((HM.1.at 0 rfl).1.2 2 _ rfl).1
 have x0:=((HM.1.at 2 rfl).1.2 0 _ rfl).1
 have x1:=((HM.1.at 2 rfl).1.2 1 _ rfl).1
 go_wp2_with (go_at_call 158;refine (HF.1 _ HM.1.bel).mono ?_;rintro e w5 ⟨rfl,hb5⟩;replace HM:=Sh.mk (HM.1.below hb5);clear hb5)
 go_ret
 exact ⟨rfl,HM.1.bel⟩
theorem refusal2 (id parent:Int) (name:ByteArray) (dir:Bool) (schema quota ln:Int) (loc:Option Addr) (pl pc:Nat) (writer:Int) (_ps:List PM) (path:ByteArray) (who:Int) (hp:path.size<=1048576) {w:World} {a:Option Addr} {n cap:Nat} {nx:Int} {T:TM} (h:SeeT w a n cap nx T):Calls Tryz.prog 124 #[.agg #[.slice a n cap,.int .i64 nx],.agg #[.int .i64 id,.int .i64 parent,.string name,.bool dir,.int .i64 schema,.int .i64 quota,.int .i64 ln,.slice loc pl pc,.int .i64 writer],.iface 223 (.agg #[.string path,.string (qab path).1,.string (qab path).2.1,.int .i64 who])] w fun e w'=>e = .returned (.int .i64 (qcg T path))/\Below w.heap.size w w':=by
 have HF:=Sh.mk (fun W (hb:Below w.heap.size w W)=>qds path hp (h.below hb))
 generalize (qab path).1=up at HF ⊢
 generalize (qab path).2.1=nm at HF ⊢
 obtain ⟨R,hR⟩:∃ R,R=qcg T path:=⟨_,rfl⟩
 rw [<-hR] at HF ⊢
 clear hR
 go_enter Tryz.func124,Tryz.ntmps124
 go_upto_region 1 with fail
 obtain ⟨tb,htb⟩:∃ tb,tb=w.heap.size:=⟨_,rfl⟩
 obtain ⟨xb,hxb⟩:∃ xb,xb=w.heap.size+1:=⟨_,rfl⟩
 refine qaa (fun W=>MB w W [(xb,[.int .i64 id,.int .i64 parent,.string name,.bool dir,.int .i64 schema,.int .i64 quota,.int .i64 ln,.slice loc pl pc,.int .i64 writer]),(tb,[.slice a n cap,.int .i64 nx])]) (by rw [hxb,htb];exact MB.two w #[.slice a n cap,.int .i64 nx] #[.int .i64 id,.int .i64 parent,.string name,.bool dir,.int .i64 schema,.int .i64 quota,.int .i64 ln,.slice loc pl pc,.int .i64 writer] 42 87) ?_
 intro W1 hW1
 have HM:=Sh.mk hW1
 rw [<-hxb,<-htb]
 clear hW1 hxb htb
 go_upto_region 7 with fail
 obtain ⟨rb,hrb⟩:∃ rb,rb=W1.heap.size:=⟨_,rfl⟩
 refine qaa (fun W=>MB w W [(rb,[.string path,.string up,.string nm,.int .i64 who]),(xb,[.int .i64 id,.int .i64 parent,.string name,.bool dir,.int .i64 schema,.int .i64 quota,.int .i64 ln,.slice loc pl pc,.int .i64 writer]),(tb,[.slice a n cap,.int .i64 nx])]) (by rw [hrb];exact HM.1.new #[.string path,.string up,.string nm,.int .i64 who] 223) ?_
 intro W2 hW2
 replace HM:=Sh.mk hW2
 rw [<-hrb]
 clear hW2 hrb
 have z0:=((HM.1.at 0 rfl).1.2 0 _ rfl).1
 have z1:=((HM.1.at 0 rfl).1.2 1 _ rfl).1
 have z2:=((HM.1.at 0 rfl).1.2 2 _ rfl).1
 have z3:=((HM.1.at 0 rfl).1.2 3 _ rfl).1
 have x0:=((HM.1.at 2 rfl).1.2 0 _ rfl).1
 have x1:=((HM.1.at 2 rfl).1.2 1 _ rfl).1
 go_wp2_with (go_at_call 158;refine (HF.1 _ HM.1.bel).mono ?_;rintro e w5 ⟨rfl,hb5⟩;replace HM:=Sh.mk (HM.1.below hb5);clear hb5)
 go_ret
 exact ⟨rfl,HM.1.bel⟩
theorem refusal3 (id parent:Int) (name:ByteArray) (dir:Bool) (schema quota ln:Int) (loc:Option Addr) (pl pc:Nat) (writer:Int) (_ps:List PM) (path dest:ByteArray) (hd:dest.size<=1048576) {w:World} {a:Option Addr} {n cap:Nat} {nx:Int} {T:TM} (h:SeeT w a n cap nx T):Calls Tryz.prog 124 #[.agg #[.slice a n cap,.int .i64 nx],.agg #[.int .i64 id,.int .i64 parent,.string name,.bool dir,.int .i64 schema,.int .i64 quota,.int .i64 ln,.slice loc pl pc,.int .i64 writer],.iface 225 (.agg #[.string path,.string dest,.string (qab dest).1,.string (qab dest).2.1])] w fun e w'=>e = .returned (.int .i64 (qfc T id dest))/\Below w.heap.size w w':=by
 have HF:=Sh.mk (fun W (hb:Below w.heap.size w W)=>moveRefusal_any id parent name dir schema quota ln loc pl pc writer dest hd (h.below hb))
 generalize (qab dest).1=up at HF ⊢
 generalize (qab dest).2.1=nm at HF ⊢
 obtain ⟨R,hR⟩:∃ R,R=qfc T id dest:=⟨_,rfl⟩
 rw [<-hR] at HF ⊢
 clear hR
 go_enter Tryz.func124,Tryz.ntmps124
 go_upto_region 1 with fail
 obtain ⟨tb,htb⟩:∃ tb,tb=w.heap.size:=⟨_,rfl⟩
 obtain ⟨xb,hxb⟩:∃ xb,xb=w.heap.size+1:=⟨_,rfl⟩
 refine qaa (fun W=>MB w W [(xb,[.int .i64 id,.int .i64 parent,.string name,.bool dir,.int .i64 schema,.int .i64 quota,.int .i64 ln,.slice loc pl pc,.int .i64 writer]),(tb,[.slice a n cap,.int .i64 nx])]) (by rw [hxb,htb];exact MB.two w #[.slice a n cap,.int .i64 nx] #[.int .i64 id,.int .i64 parent,.string name,.bool dir,.int .i64 schema,.int .i64 quota,.int .i64 ln,.slice loc pl pc,.int .i64 writer] 42 87) ?_
 intro W1 hW1
 have HM:=Sh.mk hW1
 rw [<-hxb,<-htb]
 clear hW1 hxb htb
 go_upto_region 10 with fail
 obtain ⟨rb,hrb⟩:∃ rb,rb=W1.heap.size:=⟨_,rfl⟩
 refine qaa (fun W=>MB w W [(rb,[.string path,.string dest,.string up,.string nm]),(xb,[.int .i64 id,.int .i64 parent,.string name,.bool dir,.int .i64 schema,.int .i64 quota,.int .i64 ln,.slice loc pl pc,.int .i64 writer]),(tb,[.slice a n cap,.int .i64 nx])]) (by rw [hrb];exact HM.1.new #[.string path,.string dest,.string up,.string nm] 225) ?_
 intro W2 hW2
 replace HM:=Sh.mk hW2
 rw [<-hrb]
 clear hW2 hrb
 have z0:=((HM.1.at 0 rfl).1.2 0 _ rfl).1
 have z1:=((HM.1.at 0 rfl).1.2 1 _ rfl).1
 have z2:=((HM.1.at 0 rfl).1.2 2 _ rfl).1
 have z3:=((HM.1.at 0 rfl).1.2 3 _ rfl).1
 have y0:=((HM.1.at 1 rfl).1.2 0 _ rfl).1
 have y1:=((HM.1.at 1 rfl).1.2 1 _ rfl).1
 have y2:=((HM.1.at 1 rfl).1.2 2 _ rfl).1
 have y3:=((HM.1.at 1 rfl).1.2 3 _ rfl).1
 have y4:=((HM.1.at 1 rfl).1.2 4 _ rfl).1
 have y5:=((HM.1.at 1 rfl).1.2 5 _ rfl).1
 have y6:=((HM.1.at 1 rfl).1.2 6 _ rfl).1
 have y7:=((HM.1.at 1 rfl).1.2 7 _ rfl).1
 have y8:=((HM.1.at 1 rfl).1.2 8 _ rfl).1
 have x0:=((HM.1.at 2 rfl).1.2 0 _ rfl).1
 have x1:=((HM.1.at 2 rfl).1.2 1 _ rfl).1
 go_wp2_with (go_at_call 159;refine (HF.1 _ HM.1.bel).mono ?_;rintro e w5 ⟨rfl,hb5⟩;replace HM:=Sh.mk (HM.1.below hb5);clear hb5)
 go_ret
 exact ⟨rfl,HM.1.bel⟩
theorem refusal4 (id parent:Int) (name:ByteArray) (dir:Bool) (schema quota ln:Int) (loc:Option Addr) (pl pc:Nat) (writer:Int) (_ps:List PM) (path:ByteArray) {w:World} {a:Option Addr} {n cap:Nat} {nx:Int} :Calls Tryz.prog 124 #[.agg #[.slice a n cap,.int .i64 nx],.agg #[.int .i64 id,.int .i64 parent,.string name,.bool dir,.int .i64 schema,.int .i64 quota,.int .i64 ln,.slice loc pl pc,.int .i64 writer],.iface 227 (.agg #[.string path])] w fun e w'=>e = .returned (.int .i64 (0))/\Below w.heap.size w w':=by
 go_enter Tryz.func124,Tryz.ntmps124
 go_upto_region 1 with fail
 obtain ⟨tb,htb⟩:∃ tb,tb=w.heap.size:=⟨_,rfl⟩
 obtain ⟨xb,hxb⟩:∃ xb,xb=w.heap.size+1:=⟨_,rfl⟩
 refine qaa (fun W=>MB w W [(xb,[.int .i64 id,.int .i64 parent,.string name,.bool dir,.int .i64 schema,.int .i64 quota,.int .i64 ln,.slice loc pl pc,.int .i64 writer]),(tb,[.slice a n cap,.int .i64 nx])]) (by rw [hxb,htb];exact MB.two w #[.slice a n cap,.int .i64 nx] #[.int .i64 id,.int .i64 parent,.string name,.bool dir,.int .i64 schema,.int .i64 quota,.int .i64 ln,.slice loc pl pc,.int .i64 writer] 42 87) ?_
 intro W1 hW1
 have HM:=Sh.mk hW1
 rw [<-hxb,<-htb]
 clear hW1 hxb htb
 go_wp2_with fail
 go_ret
 exact ⟨rfl,HM.1.bel⟩
theorem refusal5 (id parent:Int) (name:ByteArray) (dir:Bool) (schema quota ln:Int) (loc:Option Addr) (pl pc:Nat) (writer:Int) (ps:List PM) (path:ByteArray) (num:Int) {w:World} {a:Option Addr} {n cap:Nat} {nx:Int} :Calls Tryz.prog 124 #[.agg #[.slice a n cap,.int .i64 nx],.agg #[.int .i64 id,.int .i64 parent,.string name,.bool dir,.int .i64 schema,.int .i64 quota,.int .i64 ln,.slice loc pl pc,.int .i64 writer],.iface 229 (.agg #[.string path,.int .i64 num])] w fun e w'=>e = .returned (.int .i64 (qcu (⟨id,parent,name,dir,schema,quota,ln,ps,writer⟩:NM)))/\Below w.heap.size w w':=by
 have HF:=Sh.mk (fun W=>qga id parent name dir schema quota ln loc pl pc writer ps W)
 obtain ⟨R,hR⟩:∃ R,R=qcu (⟨id,parent,name,dir,schema,quota,ln,ps,writer⟩:NM):=⟨_,rfl⟩
 rw [<-hR] at HF ⊢
 clear hR
 go_enter Tryz.func124,Tryz.ntmps124
 go_upto_region 1 with fail
 obtain ⟨tb,htb⟩:∃ tb,tb=w.heap.size:=⟨_,rfl⟩
 obtain ⟨xb,hxb⟩:∃ xb,xb=w.heap.size+1:=⟨_,rfl⟩
 refine qaa (fun W=>MB w W [(xb,[.int .i64 id,.int .i64 parent,.string name,.bool dir,.int .i64 schema,.int .i64 quota,.int .i64 ln,.slice loc pl pc,.int .i64 writer]),(tb,[.slice a n cap,.int .i64 nx])]) (by rw [hxb,htb];exact MB.two w #[.slice a n cap,.int .i64 nx] #[.int .i64 id,.int .i64 parent,.string name,.bool dir,.int .i64 schema,.int .i64 quota,.int .i64 ln,.slice loc pl pc,.int .i64 writer] 42 87) ?_
 intro W1 hW1
 have HM:=Sh.mk hW1
 rw [<-hxb,<-htb]
 clear hW1 hxb htb
 go_upto_region 13 with fail
 obtain ⟨rb,hrb⟩:∃ rb,rb=W1.heap.size:=⟨_,rfl⟩
 refine qaa (fun W=>MB w W [(rb,[.string path,.int .i64 num]),(xb,[.int .i64 id,.int .i64 parent,.string name,.bool dir,.int .i64 schema,.int .i64 quota,.int .i64 ln,.slice loc pl pc,.int .i64 writer]),(tb,[.slice a n cap,.int .i64 nx])]) (by rw [hrb];exact HM.1.new #[.string path,.int .i64 num] 229) ?_
 intro W2 hW2
 replace HM:=Sh.mk hW2
 rw [<-hrb]
 clear hW2 hrb
 have z0:=((HM.1.at 0 rfl).1.2 0 _ rfl).1
 have z1:=((HM.1.at 0 rfl).1.2 1 _ rfl).1
 have y0:=((HM.1.at 1 rfl).1.2 0 _ rfl).1
 have y1:=((HM.1.at 1 rfl).1.2 1 _ rfl).1
 have y2:=((HM.1.at 1 rfl).1.2 2 _ rfl).1
 have y3:=((HM.1.at 1 rfl).1.2 3 _ rfl).1
 have y4:=((HM.1.at 1 rfl).1.2 4 _ rfl).1
 have y5:=((HM.1.at 1 rfl).1.2 5 _ rfl).1
 have y6:=((HM.1.at 1 rfl).1.2 6 _ rfl).1
 have y7:=((HM.1.at 1 rfl).1.2 7 _ rfl).1
 have y8:=((HM.1.at 1 rfl).1.2 8 _ rfl).1
 have x0:=((HM.1.at 2 rfl).1.2 0 _ rfl).1
 have x1:=((HM.1.at 2 rfl).1.2 1 _ rfl).1
 go_wp2_with (go_at_call 160;refine (HF.1 _).mono ?_;rintro e w5 ⟨rfl,hb5⟩;replace HM:=Sh.mk (HM.1.below hb5);clear hb5)
 go_ret
 exact ⟨rfl,HM.1.bel⟩
theorem refusal6 (id parent:Int) (name:ByteArray) (dir:Bool) (schema quota ln:Int) (loc:Option Addr) (pl pc:Nat) (writer:Int) (ps:List PM) (path:ByteArray) (num:Int) {w:World} {a:Option Addr} {n cap:Nat} {nx:Int} {T:TM} (h:SeeT w a n cap nx T):Calls Tryz.prog 124 #[.agg #[.slice a n cap,.int .i64 nx],.agg #[.int .i64 id,.int .i64 parent,.string name,.bool dir,.int .i64 schema,.int .i64 quota,.int .i64 ln,.slice loc pl pc,.int .i64 writer],.iface 231 (.agg #[.string path,.int .i64 num])] w fun e w'=>e = .returned (.int .i64 (qeq T (⟨id,parent,name,dir,schema,quota,ln,ps,writer⟩:NM) num))/\Below w.heap.size w w':=by
 have HF:=Sh.mk (fun W (hb:Below w.heap.size w W)=>quotaRefusal_any id parent name dir schema quota ln loc pl pc writer ps num (h.below hb))
 obtain ⟨R,hR⟩:∃ R,R=qeq T (⟨id,parent,name,dir,schema,quota,ln,ps,writer⟩:NM) num:=⟨_,rfl⟩
 rw [<-hR] at HF ⊢
 clear hR
 go_enter Tryz.func124,Tryz.ntmps124
 go_upto_region 1 with fail
 obtain ⟨tb,htb⟩:∃ tb,tb=w.heap.size:=⟨_,rfl⟩
 obtain ⟨xb,hxb⟩:∃ xb,xb=w.heap.size+1:=⟨_,rfl⟩
 refine qaa (fun W=>MB w W [(xb,[.int .i64 id,.int .i64 parent,.string name,.bool dir,.int .i64 schema,.int .i64 quota,.int .i64 ln,.slice loc pl pc,.int .i64 writer]),(tb,[.slice a n cap,.int .i64 nx])]) (by rw [hxb,htb];exact MB.two w #[.slice a n cap,.int .i64 nx] #[.int .i64 id,.int .i64 parent,.string name,.bool dir,.int .i64 schema,.int .i64 quota,.int .i64 ln,.slice loc pl pc,.int .i64 writer] 42 87) ?_
 intro W1 hW1
 have HM:=Sh.mk hW1
 rw [<-hxb,<-htb]
 clear hW1 hxb htb
 go_upto_region 16 with fail
 obtain ⟨rb,hrb⟩:∃ rb,rb=W1.heap.size:=⟨_,rfl⟩
 refine qaa (fun W=>MB w W [(rb,[.string path,.int .i64 num]),(xb,[.int .i64 id,.int .i64 parent,.string name,.bool dir,.int .i64 schema,.int .i64 quota,.int .i64 ln,.slice loc pl pc,.int .i64 writer]),(tb,[.slice a n cap,.int .i64 nx])]) (by rw [hrb];exact HM.1.new #[.string path,.int .i64 num] 231) ?_
 intro W2 hW2
 replace HM:=Sh.mk hW2
 rw [<-hrb]
 clear hW2 hrb
 have z0:=((HM.1.at 0 rfl).1.2 0 _ rfl).1
 have z1:=((HM.1.at 0 rfl).1.2 1 _ rfl).1
 have y0:=((HM.1.at 1 rfl).1.2 0 _ rfl).1
 have y1:=((HM.1.at 1 rfl).1.2 1 _ rfl).1
 have y2:=((HM.1.at 1 rfl).1.2 2 _ rfl).1
 have y3:=((HM.1.at 1 rfl).1.2 3 _ rfl).1
 have y4:=((HM.1.at 1 rfl).1.2 4 _ rfl).1
 have y5:=((HM.1.at 1 rfl).1.2 5 _ rfl).1
 have y6:=((HM.1.at 1 rfl).1.2 6 _ rfl).1
 have y7:=((HM.1.at 1 rfl).1.2 7 _ rfl).1
 have y8:=((HM.1.at 1 rfl).1.2 8 _ rfl).1
 have x0:=((HM.1.at 2 rfl).1.2 0 _ rfl).1
 have x1:=((HM.1.at 2 rfl).1.2 1 _ rfl).1
 go_wp2_with (go_at_call 161;refine (HF.1 _ HM.1.bel).mono ?_;rintro e w5 ⟨rfl,hb5⟩;replace HM:=Sh.mk (HM.1.below hb5);clear hb5)
 go_ret
 exact ⟨rfl,HM.1.bel⟩
theorem refusal7 (id parent:Int) (name:ByteArray) (dir:Bool) (schema quota ln:Int) (loc:Option Addr) (pl pc:Nat) (writer:Int) (ps:List PM) (path:ByteArray) (num:Int) (hid:(Lit.int .i64 id).wf=true) (hln:0<=ln/\ln<=1000) (hnum:0<=num/\num<=1000) {w:World} {a:Option Addr} {n cap:Nat} {nx:Int} {T:TM} (h:SeeT w a n cap nx T):Calls Tryz.prog 124 #[.agg #[.slice a n cap,.int .i64 nx],.agg #[.int .i64 id,.int .i64 parent,.string name,.bool dir,.int .i64 schema,.int .i64 quota,.int .i64 ln,.slice loc pl pc,.int .i64 writer],.iface 233 (.agg #[.string path,.int .i64 num])] w fun e w'=>e = .returned (.int .i64 (qcr T (⟨id,parent,name,dir,schema,quota,ln,ps,writer⟩:NM) num))/\Below w.heap.size w w':=by
 have HF:=Sh.mk (fun W (hb:Below w.heap.size w W)=>addRefusal_any id parent name dir schema quota ln loc pl pc writer ps num (h.below hb) hid hln hnum)
 obtain ⟨R,hR⟩:∃ R,R=qcr T (⟨id,parent,name,dir,schema,quota,ln,ps,writer⟩:NM) num:=⟨_,rfl⟩
 rw [<-hR] at HF ⊢
 clear hR
 go_enter Tryz.func124,Tryz.ntmps124
 go_upto_region 1 with fail
 obtain ⟨tb,htb⟩:∃ tb,tb=w.heap.size:=⟨_,rfl⟩
 obtain ⟨xb,hxb⟩:∃ xb,xb=w.heap.size+1:=⟨_,rfl⟩
 refine qaa (fun W=>MB w W [(xb,[.int .i64 id,.int .i64 parent,.string name,.bool dir,.int .i64 schema,.int .i64 quota,.int .i64 ln,.slice loc pl pc,.int .i64 writer]),(tb,[.slice a n cap,.int .i64 nx])]) (by rw [hxb,htb];exact MB.two w #[.slice a n cap,.int .i64 nx] #[.int .i64 id,.int .i64 parent,.string name,.bool dir,.int .i64 schema,.int .i64 quota,.int .i64 ln,.slice loc pl pc,.int .i64 writer] 42 87) ?_
 intro W1 hW1
 have HM:=Sh.mk hW1
 rw [<-hxb,<-htb]
 clear hW1 hxb htb
 go_upto_region 19 with fail
 obtain ⟨rb,hrb⟩:∃ rb,rb=W1.heap.size:=⟨_,rfl⟩
 refine qaa (fun W=>MB w W [(rb,[.string path,.int .i64 num]),(xb,[.int .i64 id,.int .i64 parent,.string name,.bool dir,.int .i64 schema,.int .i64 quota,.int .i64 ln,.slice loc pl pc,.int .i64 writer]),(tb,[.slice a n cap,.int .i64 nx])]) (by rw [hrb];exact HM.1.new #[.string path,.int .i64 num] 233) ?_
 intro W2 hW2
 replace HM:=Sh.mk hW2
 rw [<-hrb]
 clear hW2 hrb
 have z0:=((HM.1.at 0 rfl).1.2 0 _ rfl).1
 have z1:=((HM.1.at 0 rfl).1.2 1 _ rfl).1
 have y0:=((HM.1.at 1 rfl).1.2 0 _ rfl).1
 have y1:=((HM.1.at 1 rfl).1.2 1 _ rfl).1
 have y2:=((HM.1.at 1 rfl).1.2 2 _ rfl).1
 have y3:=((HM.1.at 1 rfl).1.2 3 _ rfl).1
 have y4:=((HM.1.at 1 rfl).1.2 4 _ rfl).1
 have y5:=((HM.1.at 1 rfl).1.2 5 _ rfl).1
 have y6:=((HM.1.at 1 rfl).1.2 6 _ rfl).1
 have y7:=((HM.1.at 1 rfl).1.2 7 _ rfl).1
 have y8:=((HM.1.at 1 rfl).1.2 8 _ rfl).1
 have x0:=((HM.1.at 2 rfl).1.2 0 _ rfl).1
 have x1:=((HM.1.at 2 rfl).1.2 1 _ rfl).1
 go_wp2_with (go_at_call 162;refine (HF.1 _ HM.1.bel).mono ?_;rintro e w5 ⟨rfl,hb5⟩;replace HM:=Sh.mk (HM.1.below hb5);clear hb5)
 go_ret
 exact ⟨rfl,HM.1.bel⟩
theorem refusal8 (id parent:Int) (name:ByteArray) (dir:Bool) (schema quota ln:Int) (loc:Option Addr) (pl pc:Nat) (writer:Int) (ps:List PM) (path:ByteArray) {w:World} {a:Option Addr} {n cap:Nat} {nx:Int} :Calls Tryz.prog 124 #[.agg #[.slice a n cap,.int .i64 nx],.agg #[.int .i64 id,.int .i64 parent,.string name,.bool dir,.int .i64 schema,.int .i64 quota,.int .i64 ln,.slice loc pl pc,.int .i64 writer],.iface 234 (.agg #[.string path])] w fun e w'=>e = .returned (.int .i64 (qbq (⟨id,parent,name,dir,schema,quota,ln,ps,writer⟩:NM) true))/\Below w.heap.size w w':=by
 have HF:=Sh.mk (fun W=>qdm id parent name dir schema quota ln loc pl pc writer ps true W)
 obtain ⟨R,hR⟩:∃ R,R=qbq (⟨id,parent,name,dir,schema,quota,ln,ps,writer⟩:NM) true:=⟨_,rfl⟩
 rw [<-hR] at HF ⊢
 clear hR
 go_enter Tryz.func124,Tryz.ntmps124
 go_upto_region 1 with fail
 obtain ⟨tb,htb⟩:∃ tb,tb=w.heap.size:=⟨_,rfl⟩
 obtain ⟨xb,hxb⟩:∃ xb,xb=w.heap.size+1:=⟨_,rfl⟩
 refine qaa (fun W=>MB w W [(xb,[.int .i64 id,.int .i64 parent,.string name,.bool dir,.int .i64 schema,.int .i64 quota,.int .i64 ln,.slice loc pl pc,.int .i64 writer]),(tb,[.slice a n cap,.int .i64 nx])]) (by rw [hxb,htb];exact MB.two w #[.slice a n cap,.int .i64 nx] #[.int .i64 id,.int .i64 parent,.string name,.bool dir,.int .i64 schema,.int .i64 quota,.int .i64 ln,.slice loc pl pc,.int .i64 writer] 42 87) ?_
 intro W1 hW1
 have HM:=Sh.mk hW1
 rw [<-hxb,<-htb]
 clear hW1 hxb htb
 go_upto_region 22 with fail
 obtain ⟨rb,hrb⟩:∃ rb,rb=W1.heap.size:=⟨_,rfl⟩
 refine qaa (fun W=>MB w W [(rb,[.string path]),(xb,[.int .i64 id,.int .i64 parent,.string name,.bool dir,.int .i64 schema,.int .i64 quota,.int .i64 ln,.slice loc pl pc,.int .i64 writer]),(tb,[.slice a n cap,.int .i64 nx])]) (by rw [hrb];exact HM.1.new #[.string path] 234) ?_
 intro W2 hW2
 replace HM:=Sh.mk hW2
 rw [<-hrb]
 clear hW2 hrb
 have z0:=((HM.1.at 0 rfl).1.2 0 _ rfl).1
 have y0:=((HM.1.at 1 rfl).1.2 0 _ rfl).1
 have y1:=((HM.1.at 1 rfl).1.2 1 _ rfl).1
 have y2:=((HM.1.at 1 rfl).1.2 2 _ rfl).1
 have y3:=((HM.1.at 1 rfl).1.2 3 _ rfl).1
 have y4:=((HM.1.at 1 rfl).1.2 4 _ rfl).1
 have y5:=((HM.1.at 1 rfl).1.2 5 _ rfl).1
 have y6:=((HM.1.at 1 rfl).1.2 6 _ rfl).1
 have y7:=((HM.1.at 1 rfl).1.2 7 _ rfl).1
 have y8:=((HM.1.at 1 rfl).1.2 8 _ rfl).1
 have x0:=((HM.1.at 2 rfl).1.2 0 _ rfl).1
 have x1:=((HM.1.at 2 rfl).1.2 1 _ rfl).1
 go_wp2_with (go_at_call 163;refine (HF.1 _).mono ?_;rintro e w5 ⟨rfl,hb5⟩;replace HM:=Sh.mk (HM.1.below hb5);clear hb5)
 go_ret
 exact ⟨rfl,HM.1.bel⟩
theorem refusal9 (id parent:Int) (name:ByteArray) (dir:Bool) (schema quota ln:Int) (loc:Option Addr) (pl pc:Nat) (writer:Int) (ps:List PM) (path:ByteArray) (who:Int) {w:World} {a:Option Addr} {n cap:Nat} {nx:Int} :Calls Tryz.prog 124 #[.agg #[.slice a n cap,.int .i64 nx],.agg #[.int .i64 id,.int .i64 parent,.string name,.bool dir,.int .i64 schema,.int .i64 quota,.int .i64 ln,.slice loc pl pc,.int .i64 writer],.iface 236 (.agg #[.string path,.int .i64 who])] w fun e w'=>e = .returned (.int .i64 (qbq (⟨id,parent,name,dir,schema,quota,ln,ps,writer⟩:NM) false))/\Below w.heap.size w w':=by
 have HF:=Sh.mk (fun W=>qdm id parent name dir schema quota ln loc pl pc writer ps false W)
 obtain ⟨R,hR⟩:∃ R,R=qbq (⟨id,parent,name,dir,schema,quota,ln,ps,writer⟩:NM) false:=⟨_,rfl⟩
 rw [<-hR] at HF ⊢
 clear hR
 go_enter Tryz.func124,Tryz.ntmps124
 go_upto_region 1 with fail
 obtain ⟨tb,htb⟩:∃ tb,tb=w.heap.size:=⟨_,rfl⟩
 obtain ⟨xb,hxb⟩:∃ xb,xb=w.heap.size+1:=⟨_,rfl⟩
 refine qaa (fun W=>MB w W [(xb,[.int .i64 id,.int .i64 parent,.string name,.bool dir,.int .i64 schema,.int .i64 quota,.int .i64 ln,.slice loc pl pc,.int .i64 writer]),(tb,[.slice a n cap,.int .i64 nx])]) (by rw [hxb,htb];exact MB.two w #[.slice a n cap,.int .i64 nx] #[.int .i64 id,.int .i64 parent,.string name,.bool dir,.int .i64 schema,.int .i64 quota,.int .i64 ln,.slice loc pl pc,.int .i64 writer] 42 87) ?_
 intro W1 hW1
 have HM:=Sh.mk hW1
 rw [<-hxb,<-htb]
 clear hW1 hxb htb
 go_upto_region 25 with fail
 obtain ⟨rb,hrb⟩:∃ rb,rb=W1.heap.size:=⟨_,rfl⟩
 refine qaa (fun W=>MB w W [(rb,[.string path,.int .i64 who]),(xb,[.int .i64 id,.int .i64 parent,.string name,.bool dir,.int .i64 schema,.int .i64 quota,.int .i64 ln,.slice loc pl pc,.int .i64 writer]),(tb,[.slice a n cap,.int .i64 nx])]) (by rw [hrb];exact HM.1.new #[.string path,.int .i64 who] 236) ?_
 intro W2 hW2
 replace HM:=Sh.mk hW2
 rw [<-hrb]
 clear hW2 hrb
 have z0:=((HM.1.at 0 rfl).1.2 0 _ rfl).1
 have z1:=((HM.1.at 0 rfl).1.2 1 _ rfl).1
 have y0:=((HM.1.at 1 rfl).1.2 0 _ rfl).1
 have y1:=((HM.1.at 1 rfl).1.2 1 _ rfl).1
 have y2:=((HM.1.at 1 rfl).1.2 2 _ rfl).1
 have y3:=((HM.1.at 1 rfl).1.2 3 _ rfl).1
 have y4:=((HM.1.at 1 rfl).1.2 4 _ rfl).1
 have y5:=((HM.1.at 1 rfl).1.2 5 _ rfl).1
 have y6:=((HM.1.at 1 rfl).1.2 6 _ rfl).1
 have y7:=((HM.1.at 1 rfl).1.2 7 _ rfl).1
 have y8:=((HM.1.at 1 rfl).1.2 8 _ rfl).1
 have x0:=((HM.1.at 2 rfl).1.2 0 _ rfl).1
 have x1:=((HM.1.at 2 rfl).1.2 1 _ rfl).1
 go_wp2_with (go_at_call 163;refine (HF.1 _).mono ?_;rintro e w5 ⟨rfl,hb5⟩;replace HM:=Sh.mk (HM.1.below hb5);clear hb5)
 go_ret
 exact ⟨rfl,HM.1.bel⟩
theorem refusal10 (id parent:Int) (name:ByteArray) (dir:Bool) (schema quota ln:Int) (loc:Option Addr) (pl pc:Nat) (writer:Int) (_ps:List PM) (path:ByteArray) {w:World} {a:Option Addr} {n cap:Nat} {nx:Int} :Calls Tryz.prog 124 #[.agg #[.slice a n cap,.int .i64 nx],.agg #[.int .i64 id,.int .i64 parent,.string name,.bool dir,.int .i64 schema,.int .i64 quota,.int .i64 ln,.slice loc pl pc,.int .i64 writer],.iface 237 (.agg #[.string path])] w fun e w'=>e = .returned (.int .i64 (0))/\Below w.heap.size w w':=by
 go_enter Tryz.func124,Tryz.ntmps124
 go_upto_region 1 with fail
 obtain ⟨tb,htb⟩:∃ tb,tb=w.heap.size:=⟨_,rfl⟩
 obtain ⟨xb,hxb⟩:∃ xb,xb=w.heap.size+1:=⟨_,rfl⟩
 refine qaa (fun W=>MB w W [(xb,[.int .i64 id,.int .i64 parent,.string name,.bool dir,.int .i64 schema,.int .i64 quota,.int .i64 ln,.slice loc pl pc,.int .i64 writer]),(tb,[.slice a n cap,.int .i64 nx])]) (by rw [hxb,htb];exact MB.two w #[.slice a n cap,.int .i64 nx] #[.int .i64 id,.int .i64 parent,.string name,.bool dir,.int .i64 schema,.int .i64 quota,.int .i64 ln,.slice loc pl pc,.int .i64 writer] 42 87) ?_
 intro W1 hW1
 have HM:=Sh.mk hW1
 rw [<-hxb,<-htb]
 clear hW1 hxb htb
 go_wp2_with fail
 go_ret
 exact ⟨rfl,HM.1.bel⟩
theorem refusal_any {w:World} {a:Option Addr} {n cap:Nat} {nx:Int} {T:TM} (h:SeeT w a n cap nx T) (e:EM) (he:EFit e) (hok:qat e=true) (r:NR) (hr:r.nd ∈ T.nodes) :
  Calls Tryz.prog 124 #[.agg #[.slice a n cap,.int .i64 nx],nv r,recV e] w fun q w'=>q = .returned (.int .i64 (refX T e r.nd))/\Below w.heap.size w w':=by
 obtain ⟨hk1,hk2⟩:=qjy hok
 have hid:=qch (qfd h.ok hr)
 have hln:0<=r.nd.len/\r.nd.len<=1000:=by
  obtain ⟨i,hi,e⟩:=List.getElem_of_mem hr
  have:=qbl h.ok i hi
  rw [e] at this
  exact ⟨this.2.2.2.1,this.2.2.2.2.1⟩
 have hnum:e.kind=7->0<=e.num/\e.num<=1000:=fun q=>by have:=(qes hok (by omega)).2.2.2.2.2.1 q;omega
 obtain ⟨kind,path,dest,num,who⟩:=e
 obtain ⟨⟨id,parent,name,dir,schema,quota,ln,ps,writer⟩,loc,pc⟩:=r
 obtain ⟨h1,h2⟩:=he
 dsimp only at hk1 hk2 h1 h2 hid hln hnum
 have:kind=1\/kind=2\/kind=3\/kind=4\/kind=5\/kind=6\/kind=7\/kind=8\/kind=9\/kind=10:=by omega
 rcases this with rfl | rfl | rfl | rfl | rfl | rfl | rfl | rfl | rfl | rfl
 ·exact refusal1 id parent name dir schema quota ln loc ps.length pc writer ps path h1 h
 ·exact refusal2 id parent name dir schema quota ln loc ps.length pc writer ps path who h1 h
 ·exact refusal3 id parent name dir schema quota ln loc ps.length pc writer ps path dest h2 h
 ·exact refusal4 id parent name dir schema quota ln loc ps.length pc writer ps path
 ·exact refusal5 id parent name dir schema quota ln loc ps.length pc writer ps path num
 ·exact refusal6 id parent name dir schema quota ln loc ps.length pc writer ps path num h
 ·exact refusal7 id parent name dir schema quota ln loc ps.length pc writer ps path num hid hln (hnum rfl) h
 ·exact refusal8 id parent name dir schema quota ln loc ps.length pc writer ps path
 ·exact refusal9 id parent name dir schema quota ln loc ps.length pc writer ps path who
 ·exact refusal10 id parent name dir schema quota ln loc ps.length pc writer ps path
theorem taken1 (id parent:Int) (name:ByteArray) (dir:Bool) (schema quota ln:Int) (loc:Option Addr) (pl pc:Nat) (writer:Int) (path:ByteArray) (w:World):Calls Tryz.prog 125 #[.agg #[.int .i64 id,.int .i64 parent,.string name,.bool dir,.int .i64 schema,.int .i64 quota,.int .i64 ln,.slice loc pl pc,.int .i64 writer],.iface 221 (.agg #[.string path,.string (qab path).1,.string (qab path).2.1])] w fun e w'=>e = .returned (.int .i64 0)/\Below w.heap.size w w':=by
 generalize (qab path).1=up
 generalize (qab path).2.1=nm
 go_enter Tryz.func125,Tryz.ntmps125
 go_wp2_with fail
 go_ret
 exact ⟨rfl,by first | exact (Below.refl _ _).alloc (Nat.le_refl _) _ | exact ((Below.refl _ _).alloc (Nat.le_refl _) _).alloc (by simp) _⟩
theorem taken2 (id parent:Int) (name:ByteArray) (dir:Bool) (schema quota ln:Int) (loc:Option Addr) (pl pc:Nat) (writer:Int) (path:ByteArray) (who:Int) (w:World):Calls Tryz.prog 125 #[.agg #[.int .i64 id,.int .i64 parent,.string name,.bool dir,.int .i64 schema,.int .i64 quota,.int .i64 ln,.slice loc pl pc,.int .i64 writer],.iface 223 (.agg #[.string path,.string (qab path).1,.string (qab path).2.1,.int .i64 who])] w fun e w'=>e = .returned (.int .i64 0)/\Below w.heap.size w w':=by
 generalize (qab path).1=up
 generalize (qab path).2.1=nm
 go_enter Tryz.func125,Tryz.ntmps125
 go_wp2_with fail
 go_ret
 exact ⟨rfl,by first | exact (Below.refl _ _).alloc (Nat.le_refl _) _ | exact ((Below.refl _ _).alloc (Nat.le_refl _) _).alloc (by simp) _⟩
theorem taken3 (id parent:Int) (name:ByteArray) (dir:Bool) (schema quota ln:Int) (loc:Option Addr) (pl pc:Nat) (writer:Int) (path dest:ByteArray) (w:World):Calls Tryz.prog 125 #[.agg #[.int .i64 id,.int .i64 parent,.string name,.bool dir,.int .i64 schema,.int .i64 quota,.int .i64 ln,.slice loc pl pc,.int .i64 writer],.iface 225 (.agg #[.string path,.string dest,.string (qab dest).1,.string (qab dest).2.1])] w fun e w'=>e = .returned (.int .i64 0)/\Below w.heap.size w w':=by
 generalize (qab dest).1=up
 generalize (qab dest).2.1=nm
 go_enter Tryz.func125,Tryz.ntmps125
 go_wp2_with fail
 go_ret
 exact ⟨rfl,by first | exact (Below.refl _ _).alloc (Nat.le_refl _) _ | exact ((Below.refl _ _).alloc (Nat.le_refl _) _).alloc (by simp) _⟩
theorem taken4 (id parent:Int) (name:ByteArray) (dir:Bool) (schema quota ln:Int) (loc:Option Addr) (pl pc:Nat) (writer:Int) (path:ByteArray) (w:World):Calls Tryz.prog 125 #[.agg #[.int .i64 id,.int .i64 parent,.string name,.bool dir,.int .i64 schema,.int .i64 quota,.int .i64 ln,.slice loc pl pc,.int .i64 writer],.iface 227 (.agg #[.string path])] w fun e w'=>e = .returned (.int .i64 0)/\Below w.heap.size w w':=by
 go_enter Tryz.func125,Tryz.ntmps125
 go_wp2_with fail
 go_ret
 exact ⟨rfl,by first | exact (Below.refl _ _).alloc (Nat.le_refl _) _ | exact ((Below.refl _ _).alloc (Nat.le_refl _) _).alloc (by simp) _⟩
theorem taken5 (id parent:Int) (name:ByteArray) (dir:Bool) (schema quota ln:Int) (loc:Option Addr) (pl pc:Nat) (writer:Int) (path:ByteArray) (num:Int) (w:World):Calls Tryz.prog 125 #[.agg #[.int .i64 id,.int .i64 parent,.string name,.bool dir,.int .i64 schema,.int .i64 quota,.int .i64 ln,.slice loc pl pc,.int .i64 writer],.iface 229 (.agg #[.string path,.int .i64 num])] w fun e w'=>e = .returned (.int .i64 0)/\Below w.heap.size w w':=by
 go_enter Tryz.func125,Tryz.ntmps125
 go_wp2_with fail
 go_ret
 exact ⟨rfl,by first | exact (Below.refl _ _).alloc (Nat.le_refl _) _ | exact ((Below.refl _ _).alloc (Nat.le_refl _) _).alloc (by simp) _⟩
theorem taken6 (id parent:Int) (name:ByteArray) (dir:Bool) (schema quota ln:Int) (loc:Option Addr) (pl pc:Nat) (writer:Int) (path:ByteArray) (num:Int) (w:World):Calls Tryz.prog 125 #[.agg #[.int .i64 id,.int .i64 parent,.string name,.bool dir,.int .i64 schema,.int .i64 quota,.int .i64 ln,.slice loc pl pc,.int .i64 writer],.iface 231 (.agg #[.string path,.int .i64 num])] w fun e w'=>e = .returned (.int .i64 0)/\Below w.heap.size w w':=by
 go_enter Tryz.func125,Tryz.ntmps125
 go_wp2_with fail
 go_ret
 exact ⟨rfl,by first | exact (Below.refl _ _).alloc (Nat.le_refl _) _ | exact ((Below.refl _ _).alloc (Nat.le_refl _) _).alloc (by simp) _⟩
theorem taken7 (id parent:Int) (name:ByteArray) (dir:Bool) (schema quota ln:Int) (loc:Option Addr) (pl pc:Nat) (writer:Int) (path:ByteArray) (num:Int) (w:World):Calls Tryz.prog 125 #[.agg #[.int .i64 id,.int .i64 parent,.string name,.bool dir,.int .i64 schema,.int .i64 quota,.int .i64 ln,.slice loc pl pc,.int .i64 writer],.iface 233 (.agg #[.string path,.int .i64 num])] w fun e w'=>e = .returned (.int .i64 ((qaw schema num).length:Int))/\Below w.heap.size w w':=by
 have HS:=Sh.mk (fun W=>qoi schema num W)
 unfold IPost at HS
 generalize qaw schema num=L at HS ⊢
 go_enter Tryz.func125,Tryz.ntmps125
 go_upto_region 1 with fail
 obtain ⟨xb,hxb⟩:∃ xb,xb=w.heap.size:=⟨_,rfl⟩
 refine qaa (fun W=>MB w W [(xb,[.int .i64 id,.int .i64 parent,.string name,.bool dir,.int .i64 schema,.int .i64 quota,.int .i64 ln,.slice loc pl pc,.int .i64 writer])]) (by rw [hxb];exact (MB.nil w).new #[.int .i64 id,.int .i64 parent,.string name,.bool dir,.int .i64 schema,.int .i64 quota,.int .i64 ln,.slice loc pl pc,.int .i64 writer] 87) ?_
 intro W1 hW1
 have HM:=Sh.mk hW1
 rw [<-hxb]
 clear hW1 hxb
 go_upto_region 4 with fail
 obtain ⟨rb,hrb⟩:∃ rb,rb=W1.heap.size:=⟨_,rfl⟩
 refine qaa (fun W=>MB w W [(rb,[.string path,.int .i64 num]),(xb,[.int .i64 id,.int .i64 parent,.string name,.bool dir,.int .i64 schema,.int .i64 quota,.int .i64 ln,.slice loc pl pc,.int .i64 writer])]) (by rw [hrb];exact HM.1.new #[.string path,.int .i64 num] 233) ?_
 intro W2 hW2
 replace HM:=Sh.mk hW2
 rw [<-hrb]
 clear hW2 hrb
 have z1:=((HM.1.at 0 rfl).1.2 1 _ rfl).1
 have y4:=((HM.1.at 1 rfl).1.2 4 _ rfl).1
 go_wp2_with (go_at_call 164;refine (HS.1 _).mono ?_;rintro e w5 ⟨sv,rfl,hia,hb5⟩;replace HM:=Sh.mk (HM.1.below hb5);obtain ⟨sa,sc,rfl,_⟩:=hia;clear hb5 z1 y4)
 go_ret
 exact ⟨rfl,HM.1.bel⟩
theorem taken8 (id parent:Int) (name:ByteArray) (dir:Bool) (schema quota ln:Int) (loc:Option Addr) (pl pc:Nat) (writer:Int) (path:ByteArray) (w:World):Calls Tryz.prog 125 #[.agg #[.int .i64 id,.int .i64 parent,.string name,.bool dir,.int .i64 schema,.int .i64 quota,.int .i64 ln,.slice loc pl pc,.int .i64 writer],.iface 234 (.agg #[.string path])] w fun e w'=>e = .returned (.int .i64 0)/\Below w.heap.size w w':=by
 go_enter Tryz.func125,Tryz.ntmps125
 go_wp2_with fail
 go_ret
 exact ⟨rfl,by first | exact (Below.refl _ _).alloc (Nat.le_refl _) _ | exact ((Below.refl _ _).alloc (Nat.le_refl _) _).alloc (by simp) _⟩
theorem taken9 (id parent:Int) (name:ByteArray) (dir:Bool) (schema quota ln:Int) (loc:Option Addr) (pl pc:Nat) (writer:Int) (path:ByteArray) (who:Int) (w:World):Calls Tryz.prog 125 #[.agg #[.int .i64 id,.int .i64 parent,.string name,.bool dir,.int .i64 schema,.int .i64 quota,.int .i64 ln,.slice loc pl pc,.int .i64 writer],.iface 236 (.agg #[.string path,.int .i64 who])] w fun e w'=>e = .returned (.int .i64 0)/\Below w.heap.size w w':=by
 go_enter Tryz.func125,Tryz.ntmps125
 go_wp2_with fail
 go_ret
 exact ⟨rfl,by first | exact (Below.refl _ _).alloc (Nat.le_refl _) _ | exact ((Below.refl _ _).alloc (Nat.le_refl _) _).alloc (by simp) _⟩
theorem taken10 (id parent:Int) (name:ByteArray) (dir:Bool) (schema quota ln:Int) (loc:Option Addr) (pl pc:Nat) (writer:Int) (path:ByteArray) (w:World):Calls Tryz.prog 125 #[.agg #[.int .i64 id,.int .i64 parent,.string name,.bool dir,.int .i64 schema,.int .i64 quota,.int .i64 ln,.slice loc pl pc,.int .i64 writer],.iface 237 (.agg #[.string path])] w fun e w'=>e = .returned (.int .i64 20)/\Below w.heap.size w w':=by
 go_enter Tryz.func125,Tryz.ntmps125
 go_wp2_with fail
 go_ret
 exact ⟨rfl,by first | exact (Below.refl _ _).alloc (Nat.le_refl _) _ | exact ((Below.refl _ _).alloc (Nat.le_refl _) _).alloc (by simp) _⟩
theorem taken_any (T:TM) (k:Nat) (e:EM) (hok:qat e=true) (r:NR) (hr:r.nd=ndAt T k) (w:World):Calls Tryz.prog 125 #[nv r,recV e] w fun q w'=>q = .returned (.int .i64 (takX T e k))/\Below w.heap.size w w':=by
 obtain ⟨hk1,hk2⟩:=qjy hok
 unfold takX
 rw [<-hr]
 obtain ⟨kind,path,dest,num,who⟩:=e
 obtain ⟨⟨id,parent,name,dir,schema,quota,ln,ps,writer⟩,loc,pc⟩:=r
 dsimp only at hk1 hk2
 have:kind=1\/kind=2\/kind=3\/kind=4\/kind=5\/kind=6\/kind=7\/kind=8\/kind=9\/kind=10:=by omega
 rcases this with rfl | rfl | rfl | rfl | rfl | rfl | rfl | rfl | rfl | rfl
 ·exact taken1 id parent name dir schema quota ln loc ps.length pc writer path w
 ·exact taken2 id parent name dir schema quota ln loc ps.length pc writer path who w
 ·exact taken3 id parent name dir schema quota ln loc ps.length pc writer path dest w
 ·exact taken4 id parent name dir schema quota ln loc ps.length pc writer path w
 ·exact taken5 id parent name dir schema quota ln loc ps.length pc writer path num w
 ·exact taken6 id parent name dir schema quota ln loc ps.length pc writer path num w
 ·exact taken7 id parent name dir schema quota ln loc ps.length pc writer path num w
 ·exact taken8 id parent name dir schema quota ln loc ps.length pc writer path w
 ·exact taken9 id parent name dir schema quota ln loc ps.length pc writer path who w
 ·exact taken10 id parent name dir schema quota ln loc ps.length pc writer path w
end Go.Proofs.YtoglebfiobofoaaGreatDoor
