/- Texts of ours, laid one behind the other: CtA, TreS, TreT, TreN, TreU, TreW, TreX, TreY, ApM, ApA, ApF, ApH, LkQ, LkE, LkF, SchQ, TreJ, LkR. -/
import Derived.Test.YtackbhpgdohimaaGreatDoorQkCpB
import Derived.Test.YtackbhpgdohimaaGreatDoorQkTreR
import Derived.Test.YtackbhpgdohimaaGreatDoorQk3
import Derived.Test.YtackbhpgdohimaaGreatDoorQk4
import Derived.Test.YtackbhpgdohimaaGreatDoorQk5
import Derived.Test.YtackbhpgdohimaaGreatDoorQkStI
import Derived.Maps.AppendAt
import Derived.Deep.LoopGhost
/- CtA: . -/
namespace Go.Proofs.YtackbhpgdohimaaGreatDoor
set_option maxRecDepth 100000
set_option maxHeartbeats 16000000
open Go.RowKit
attribute [local go_sem ↓] Go.wp_at_zero Go.wp_at_succ
section
variable {cap n:Nat} {a:Option Addr} {w:World}
theorem qjw:(Tryz.prog.info? 90).map (fun i=>(i.zero,i.size,i.bytes))=some (some (.agg #[.int .i64 0,.int .i64 0,.string ⟨#[]⟩,.bool false,.int .i64 0,.int .i64 0,.int .i64 0,.slice none 0 0,.int .i64 0]),9,96):=by kernel_rfl
theorem eqNonePiece (n c:Nat) (W:World):Sem.run Tryz.prog (binOp BinOp.eql 88 (.slice none n c) (.slice none 0 0)) W = .ok (.bool true) W:=by kernel_rfl
theorem eqSomePiece (q:Addr) (n c:Nat) (W:World):Sem.run Tryz.prog (binOp BinOp.eql 88 (.slice (some q) n c) (.slice none 0 0)) W = .ok (.bool false) W:=by kernel_rfl
theorem eqNoneInode (n c:Nat) (W:World):Sem.run Tryz.prog (binOp BinOp.eql 35 (.slice none n c) (.slice none 0 0)) W = .ok (.bool true) W:=by kernel_rfl
theorem eqSomeInode (q:Addr) (n c:Nat) (W:World):Sem.run Tryz.prog (binOp BinOp.eql 35 (.slice (some q) n c) (.slice none 0 0)) W = .ok (.bool false) W:=by kernel_rfl
attribute [local go_sem] eqNonePiece eqSomePiece eqNoneInode eqSomeInode
def qii (L:List Value) (n:Nat) (w:World) (e:Ending) (w':World):Prop:=∃ (a:Option Addr) (c:Nat),e = .returned (.slice a n c)/\w'.ownsRow w.heap.size 143 2 (.slice a n c) n L/\Below w.heap.size w w'
theorem cloneP_any {ps:List PM} (h:CRow w a (pcs ps)) (hn:n=ps.length) (hl:n<=1048576):Calls Tryz.prog 104 #[.slice a n cap] w fun e w'=>qii (pcs ps) n w e w':=by
 have hv:∀ u ∈ pcs ps,u.oneCell'=true:=by
  intro u hu;obtain ⟨y,_,hy⟩:=List.mem_flatMap.1 hu;simp [qei] at hy;rcases hy with rfl | rfl <;> rfl
 have hL:(pcs ps).length=n*2:=by rw [qiv,hn]
 have HV:=zS hv;generalize pcs ps=L at h HV hL ⊢;clear hn hv;obtain ⟨j0,hjn,hy0,hy1,hy2⟩:=info_parts qgh;have HL:=zS hL;clear hL;rcases Nat.eq_zero_or_pos n with h0 | hp
 ·have hL0:L=[]:=List.eq_nil_of_length_eq_zero (by rw [HL.1,h0,Nat.zero_mul])
  subst h0;subst hL0;clear h
  cases a with
  | none =>
   go_enter Tryz.func104,Tryz.ntmps104;go_wp2_with fail;go_ret;exact ⟨none,0,rfl,World.ownsRow_nil w w.heap.size 143 2,zB⟩
  | some q =>
   have hap:∀ (W:World) (g:Addr),∀ ty,(Builtin.append_ #[88,88] ty #[.slice (some g) 0 0,.slice (some q) 0 cap]).run Tryz.prog W = .ok (.slice (some g) 0 0) W:=fun W g ty =>
    run_append_nothing W _ _ _ _ j0 Tryz.underlying88 hjn (some g) 0 0 zL _ (Src.ofSlice W Tryz.underlying88 q 0 cap [] (by simp) (by simp) (by simp))
   have HAP:=zS hap;clear hap;go_enter Tryz.func104,Tryz.ntmps104;go_wp2_with (at_builtin;refine qbj _ rfl _ _ 88 rfl _ _ rfl rfl (HAP.1 _ _) ?_);go_ret;exact ⟨some ⟨w.heap.size,0,none⟩,0,rfl,World.ownsRow_made (e:=143) (size:=2) (base:=w.heap.size) w #[] 0 zL (by decide) rfl,zB.alloc zL _⟩
 ·have hLp:0<L.length:=by rw [HL.1];omega
  obtain ⟨pb,poff,rfl,lpb,hpc⟩:=h hLp;have HPC:=zS hpc;clear hpc h hLp;go_enter Tryz.func104,Tryz.ntmps104;have hmade:=World.ownsRow_made (e:=143) (size:=2) (base:=w.heap.size) w #[] 0 zL (by decide) rfl;go_wp2_with (at_builtin;refine wpList_append_own _ rfl _ _ 88 rfl w.heap.size 143 j0 _ 2 16 Tryz.underlying88 hjn hy0 hy1 hy2 rfl (by decide) _ 0 [] rfl hmade ⟨pb,poff,none⟩ n cap L rfl ?c0 ?c1 ?c2 ?c3 ?c4 ?c5 ?_)
  case c0=>first | exact HL.1 | (rw [HL.1];omega)
  case c1 =>
   intro i u hu;have e:(⟨pb,poff,none⟩:Addr).add i=⟨pb,poff+i,none⟩:=by cases i <;> simp [Addr.add]
   rw [e,<-HPC.1 i u hu];exact ((Below.refl w.heap.size w).alloc zL _).cell (p:=⟨pb,poff+i,none⟩) lpb
  case c2=>exact HV.1
  case c3=>unfold maxLen;omega
  case c4=>omega
  case c5=>simp
  intro v' w10 ho10 hgrow _;obtain ⟨a9,c9,rfl⟩:=qhj ho10;have HO:=zS ho10;have HB:Sh (Below w.heap.size w w10):=⟨((Below.refl w.heap.size w).alloc zL _).grown hgrow (by simp) (fun j hj=>by cases hj;exact zL)⟩;clear ho10 hgrow hmade;go_wp2_with fail;go_ret;exact ⟨a9,c9,rfl,HO.1,HB.1⟩
def qij (L:List Value) (n:Nat) (w:World) (e:Ending) (w':World):Prop:=∃ (a:Option Addr) (c:Nat),e = .returned (.slice a n c)/\w'.ownsRow w.heap.size 90 9 (.slice a n c) n L/\Below w.heap.size w w'
theorem cloneN_any {rs:List NR} (h:CRow w a (ncs rs)) (hn:n=rs.length) (hl:n<=1048576):Calls Tryz.prog 102 #[.slice a n cap] w fun e w'=>qij (ncs rs) n w e w':=by
 have hv:∀ u ∈ ncs rs,u.oneCell'=true:=by
  intro u hu;obtain ⟨y,_,hy⟩:=List.mem_flatMap.1 hu;simp [qaj] at hy;rcases hy with rfl | rfl | rfl | rfl | rfl | rfl | rfl | rfl | rfl <;> rfl
 have hL:(ncs rs).length=n*9:=by rw [qes,hn]
 have HV:=zS hv;generalize ncs rs=L at h HV hL ⊢;clear hn hv;obtain ⟨j0,hjn,hy0,hy1,hy2⟩:=info_parts qjw;have HL:=zS hL;clear hL;rcases Nat.eq_zero_or_pos n with h0 | hp
 ·have hL0:L=[]:=List.eq_nil_of_length_eq_zero (by rw [HL.1,h0,Nat.zero_mul])
  subst h0;subst hL0;clear h
  cases a with
  | none =>
   go_enter Tryz.func102,Tryz.ntmps102;go_wp2_with fail;go_ret;exact ⟨none,0,rfl,World.ownsRow_nil w w.heap.size 90 9,zB⟩
  | some q =>
   have hap:∀ (W:World) (g:Addr),∀ ty,(Builtin.append_ #[35,35] ty #[.slice (some g) 0 0,.slice (some q) 0 cap]).run Tryz.prog W = .ok (.slice (some g) 0 0) W:=fun W g ty =>
    run_append_nothing W _ _ _ _ j0 Tryz.underlying35 hjn (some g) 0 0 zL _ (Src.ofSlice W Tryz.underlying35 q 0 cap [] (by simp) (by simp) (by simp))
   have HAP:=zS hap;clear hap;go_enter Tryz.func102,Tryz.ntmps102;go_wp2_with (at_builtin;refine qbj _ rfl _ _ 35 rfl _ _ rfl rfl (HAP.1 _ _) ?_);go_ret;exact ⟨some ⟨w.heap.size,0,none⟩,0,rfl,World.ownsRow_made (e:=90) (size:=9) (base:=w.heap.size) w #[] 0 zL (by decide) rfl,zB.alloc zL _⟩
 ·have hLp:0<L.length:=by rw [HL.1];omega
  obtain ⟨pb,poff,rfl,lpb,hpc⟩:=h hLp;have HPC:=zS hpc;clear hpc h hLp;go_enter Tryz.func102,Tryz.ntmps102;have hmade:=World.ownsRow_made (e:=90) (size:=9) (base:=w.heap.size) w #[] 0 zL (by decide) rfl;go_wp2_with (at_builtin;refine wpList_append_own _ rfl _ _ 35 rfl w.heap.size 90 j0 _ 9 96 Tryz.underlying35 hjn hy0 hy1 hy2 rfl (by decide) _ 0 [] rfl hmade ⟨pb,poff,none⟩ n cap L rfl ?c0 ?c1 ?c2 ?c3 ?c4 ?c5 ?_)
  case c0=>first | exact HL.1 | (rw [HL.1];omega)
  case c1 =>
   intro i u hu;have e:(⟨pb,poff,none⟩:Addr).add i=⟨pb,poff+i,none⟩:=by cases i <;> simp [Addr.add]
   rw [e,<-HPC.1 i u hu];exact ((Below.refl w.heap.size w).alloc zL _).cell (p:=⟨pb,poff+i,none⟩) lpb
  case c2=>exact HV.1
  case c3=>unfold maxLen;omega
  case c4=>omega
  case c5=>simp
  intro v' w10 ho10 hgrow _;obtain ⟨a9,c9,rfl⟩:=qhj ho10;have HO:=zS ho10;have HB:Sh (Below w.heap.size w w10):=⟨((Below.refl w.heap.size w).alloc zL _).grown hgrow (by simp) (fun j hj=>by cases hj;exact zL)⟩;clear ho10 hgrow hmade;go_wp2_with fail;go_ret;exact ⟨a9,c9,rfl,HO.1,HB.1⟩
end
section
attribute [local irreducible] nodeOk
variable {T:TM}
theorem qix (h:inI (T.nodes.length:Int) 1 14=false):qae T=false:=by
 unfold qae;unfold inI at h
 have:(decide (1<=T.nodes.length)&&decide (T.nodes.length<=14))=false:=by
  rw [<-h]
  congr 1
  ·exact decide_eq_decide.2 ⟨fun h=>by omega,fun h=>by omega⟩
  ·exact decide_eq_decide.2 ⟨fun h=>by omega,fun h=>by omega⟩
 rw [this];rfl
theorem treeOk_next (h:¬ T.next<=100000):qae T=false:=by unfold qae;rw [decide_eq_false h];simp
theorem treeOk_no {k:Nat} (hk:k<T.nodes.length) (h:nodeOk T k=false):qae T=false:=by
 have:(List.range T.nodes.length).all (nodeOk T)=false:=by
  cases e:(List.range T.nodes.length).all (nodeOk T) with
  | false=>rfl
  | true=>rw [List.all_eq_true] at e;rw [e k (List.mem_range.2 hk)] at h;cases h
 unfold qae;rw [this];simp
theorem qml (h1:inI (T.nodes.length:Int) 1 14=true) (h2:T.next<=100000) (h3:∀ k,k<T.nodes.length->nodeOk T k=true):qae T=true:=by
 rw [inI_iff] at h1;unfold qae;rw [decide_eq_true (show 1<=T.nodes.length by omega),decide_eq_true (show T.nodes.length<=14 by omega),decide_eq_true h2,show (List.range T.nodes.length).all (nodeOk T)=true from List.all_eq_true.2 (fun k hk=>h3 k (List.mem_range.1 hk))];rfl
theorem qdy {w:World} {v:Value} {lo hi:Nat} (h:TSee w v T lo hi) (hf:NFit T):Calls Tryz.prog 42 #[v] w fun e w'=>e = .returned (.bool (qae T))/\Below w.heap.size w w':=by
 obtain ⟨a,cap,rs,rfl,hr,hm⟩:=h;obtain ⟨n,hn⟩:∃ n,n=rs.length:=⟨_,rfl⟩;have hnl:n=T.nodes.length:=by rw [hn,<-hr,qaf]
 have hp:∀ r ∈ rs,r.nd.pieces.length<=1048576/\r.nd.name.size<=1048576:=fun r hx=>by
  have:=qep (ns:=T.nodes) (n:=r.nd) (by rw [<-hr];exact List.mem_map.2 ⟨r,hx,rfl⟩);unfold NFit at hf;omega
 have hn9:n<=1048576:=by unfold NFit at hf;omega
 obtain ⟨R,hR⟩:∃ R,R=qae T:=⟨_,rfl⟩;have HR:=zS hR;obtain ⟨nodes,nx⟩:=T;dsimp only at hr hnl;subst hr;rw [<-hR,<-hn];have HM:=zS (And.intro hm (And.intro hp (And.intro hn hnl)));obtain ⟨W,hW⟩:∃ W,W=w.alloc (.cells #[.slice a n cap,.int .i64 nx] 37):=⟨_,rfl⟩;have HB:Sh (Below w.heap.size w W):=⟨by rw [hW];exact zB.alloc zL _⟩;have HX:Sh (WCells W w.heap.size [.slice a n cap,.int .i64 nx]):=⟨by rw [hW];exact qac w #[.slice a n cap,.int .i64 nx] 37⟩;obtain ⟨x0,x1⟩:=bwb2 HX.1;clear hm hp hf hR hn hnl
 cases h1:inI (n:Int) 1 14 with
 | false =>
  have HE:Sh (R=false):=⟨by rw [HR.1];exact qix (by rw [<-HM.1.2.2.2];exact h1)⟩;go_enter Tryz.func42,Tryz.ntmps42;go_upto_region 1 with fail;rw [<-hW];clear hW;go_wp2_with fail;refine (isInI (n:Int) 1 14 _ false h1).mono ?_;rintro e w1 ⟨rfl,hw1⟩;obtain rfl:W=w1:=hw1.symm;clear hw1;go_wp2_with fail;go_ret;exact ⟨by rw [HE.1];rfl,HB.1⟩
 | true =>
  have hn14:=(inI_iff.1 h1).2
  by_cases h2:nx<=100000
  case neg =>
   have h2':(100000:Int)<nx:=by omega
   have HE:Sh (R=false):=⟨by rw [HR.1];exact treeOk_next h2⟩;go_enter Tryz.func42,Tryz.ntmps42;go_upto_region 1 with fail;rw [<-hW];clear hW;go_wp2_with fail;refine (isInI (n:Int) 1 14 _ true h1).mono ?_;rintro e w1 ⟨rfl,hw1⟩;obtain rfl:W=w1:=hw1.symm;clear hw1;go_wp2_with fail;go_ret;exact ⟨by rw [HE.1];rfl,HB.1⟩
  have h2':¬ (100000:Int)<nx:=by omega
  have HY:=zS (fun (q:∀ k,k<n->nodeOk ⟨nds rs,nx⟩ k=true)=>HR.1.trans (qml (T:=⟨nds rs,nx⟩) (by show inI ((nds rs).length:Int) 1 14=true;rw [<-HM.1.2.2.2];exact h1) h2 (fun k hk=>q k (by rw [HM.1.2.2.2];exact hk))));have HNO:=zS (fun (k:Nat) (hk:k<n) (q:nodeOk ⟨nds rs,nx⟩ k=false)=>HR.1.trans (treeOk_no (T:=⟨nds rs,nx⟩) (by show k<(nds rs).length;rw [<-HM.1.2.2.2];exact hk) q));have HND:=zS (fun (W:World) (hW:Below w.heap.size w W) (k:Nat) (hk:k<n)=>specNode (cap:=cap) (nx:=nx) k (HM.1.1.below hW) (by rw [<-HM.1.2.2.1];exact hk) (by rw [<-HM.1.2.2.1];omega) HM.1.2.1);rw [<-HM.1.2.2.1] at HND;go_enter Tryz.func42,Tryz.ntmps42;go_upto_region 1 with fail;rw [<-hW];clear hW;go_wp2_with fail;refine (isInI (n:Int) 1 14 _ true h1).mono ?_;rintro e w1 ⟨rfl,hw1⟩;obtain rfl:W=w1:=hw1.symm;clear hw1 h1 x0 x1;obtain ⟨x0,x1⟩:=bwb2 HX.1;go_wp2_with fail;go_loopw [3] (fun i wr=>∃ (k:Nat),i = .int .i64 k/\k<=n/\Sh (∀ j,j<k->nodeOk ⟨nds rs,nx⟩ j=true)/\Sh (Below W.heap.size W wr)) (fun i _=>n - (intOf i).toNat)
  case atStart=>exact ⟨0,rfl,Nat.zero_le _,⟨fun j hj=>by omega⟩,⟨zB⟩⟩
  case round =>
   clear x0 x1;obtain ⟨k,rfl,hk,hall,hb⟩:=hrel;obtain ⟨x0,x1⟩:=bwb2 (HX.1.grow hb.1)
   by_cases hlt:k<n
   ·have k1:(k:Int)<(n:Int):=by omega
    have HC:=zS (HND.1 wr (HB.1.trans (hb.1.mono HB.1.size)) k hlt)
    cases hok:nodeOk ⟨nds rs,nx⟩ k with
    | false =>
     have HE:=zS (HNO.1 k hlt hok);rw [hok] at HC;clear hok;go_wp2_with fail;refine HC.1.mono ?_;rintro e w2 ⟨rfl,hb2⟩;have HB2:=zS (HB.1.trans ((hb.1.trans (hb2.mono hb.1.size)).mono HB.1.size));clear hb2;go_wp2_with fail;go_ret;exact ⟨by rw [HE.1];rfl,HB2.1⟩
    | true =>
     have HAL:Sh (∀ j,j<k+1->nodeOk ⟨nds rs,nx⟩ j=true):=⟨fun j hj=>by
      by_cases e:j=k
      ·subst e;exact hok
      ·exact hall.1 j (by omega)⟩
     rw [hok] at HC;clear hok hall;go_wp2_with fail;refine HC.1.mono ?_;rintro e w2 ⟨rfl,hb2⟩;have HB2:=zS (hb.1.trans (hb2.mono hb.1.size));clear hb2;go_wp2_with fail;go_roundw
     case rel=>exact ⟨k+1,by go_num,by omega,HAL,HB2⟩
     case measure=>simp [intOf];omega
   ·have k1:¬ (k:Int)<(n:Int):=by omega
    have HE:=zS (HY.1 (fun j hj=>hall.1 j (by omega)));go_wp2_with fail;go_ret;exact ⟨by rw [HE.1];rfl,HB.1.trans (hb.1.mono HB.1.size)⟩
end
section
attribute [local irreducible] nodeOk qae atI
variable {c top:Int} {ns:List NM} {f i:Nat} {w:World}
def qal (ns:List NM):Nat->Int->Int->Bool
 | 0,_,_=>false
 | f+1,id,top=>if id=top then true else match ns.findIdx? (fun n=>n.id==id) with
  | none=>false
  | some k=>qal ns f (ns.getD k default).parent top
theorem qlc (h:c=top):qal ns (f+1) c top=true:=by
 conv=>lhs;unfold qal
 rw [if_pos h]
theorem qfk (h0:c ≠ top) (h:ns.findIdx? (fun n=>n.id==c)=none):qal ns (f+1) c top=false:=by
 conv=>lhs;unfold qal
 rw [if_neg h0,h]
theorem qej (h0:c ≠ top) (h:ns.findIdx? (fun n=>n.id==c)=some i):qal ns (f+1) c top=qal ns f (ns.getD i default).parent top:=by
 conv=>lhs;unfold qal
 rw [if_neg h0,h]
def qdb (ns:List NM):Nat->Int->Int
 | 0,_=>0
 | f+1,id=>match ns.findIdx? (fun n=>n.id==id) with
  | none=>0
  | some k=>if (ns.getD k default).schema ≠ 0 then (ns.getD k default).schema else qdb ns f (ns.getD k default).parent
theorem qge (h:ns.findIdx? (fun n=>n.id==c)=none):qdb ns (f+1) c=0:=by
 conv=>lhs;unfold qdb
 rw [h]
theorem qjf (h:ns.findIdx? (fun n=>n.id==c)=some i):qdb ns (f+1) c=if (ns.getD i default).schema ≠ 0 then (ns.getD i default).schema else qdb ns f (ns.getD i default).parent:=by
 conv=>lhs;unfold qdb
 rw [h]
def qbo (T:TM) (id:Int):Int:=if qae T=true then qdb T.nodes 15 id else 0
theorem qgt (ns:List NM) (id:Int):(atI ns id = -1/\ns.findIdx? (fun n=>n.id==id)=none)\/∃ i,i<ns.length/\atI ns id=(i:Int)/\ns.findIdx? (fun n=>n.id==id)=some i:=by
 unfold atI
 cases h:ns.findIdx? (fun n=>n.id==id) with
 | none=>exact .inl ⟨rfl,rfl⟩
 | some i =>
  obtain ⟨hi,_⟩:=List.findIdx?_eq_some_iff_getElem.1 h;exact .inr ⟨i,hi,rfl,rfl⟩
structure BX (w W:World) (a:Option Addr) (n cap:Nat) (nx:Int):Prop where
 bel:Below w.heap.size w W
 box:WCells W w.heap.size [.slice a n cap,.int .i64 nx]
theorem BX.below {w W W':World} {a:Option Addr} {n cap:Nat} {nx:Int} (h:BX w W a n cap nx) (hb:Below W.heap.size W W'):BX w W' a n cap nx:=⟨h.bel.trans (hb.mono h.bel.size),h.box.grow hb⟩
theorem BX.new (w:World) (a:Option Addr) (n cap:Nat) (nx:Int) (t:TypeId):BX w (w.alloc (.cells #[.slice a n cap,.int .i64 nx] t)) a n cap nx:=⟨zB.alloc zL _,qac w #[.slice a n cap,.int .i64 nx] t⟩
theorem qld {v:Value} {T:TM} {lo hi:Nat} (id top:Int) (h:TSee w v T lo hi) (hf:NFit T):Calls Tryz.prog 88 #[v,.int .i64 id,.int .i64 top] w fun e w'=>e = .returned (.bool (qal T.nodes 15 id top))/\Below w.heap.size w w':=by
 have hl:T.nodes.length<=1048576:=by unfold NFit at hf;omega
 have h':=h;obtain ⟨a,cap,rs,rfl,hr,hm⟩:=h;obtain ⟨n,hn⟩:∃ n,n=rs.length:=⟨_,rfl⟩;rw [<-hn] at h' ⊢;have HTS:=zS (fun W (hW:Below w.heap.size w W) (c:Int)=>qgd c (h'.below hW) hl);obtain ⟨R,hR⟩:∃ R,R=qal T.nodes 15 id top:=⟨_,rfl⟩;have HR:=zS hR;rw [<-hR];obtain ⟨nodes,nx⟩:=T;dsimp only at hr HTS;subst hr;have HM:=zS (And.intro hm hn);have hn9:n<=1048576:=by dsimp only at hl;rw [qaf] at hl;omega
 clear hm hf hR hn h' hl;go_enter Tryz.func88,Tryz.ntmps88;go_upto_region 1 with fail;refine qaa (fun W=>BX w W a n cap nx) (BX.new w a n cap nx 37) ?_;intro W hg;have HG:=zS hg;clear hg;go_wp2_with fail;go_loopw [1,7] (fun iv mv wr=>∃ (m:Nat) (c:Int),iv = .int .i64 c/\mv = .int .i64 m/\m<=15/\Sh (R=qal (nds rs) (15 - m) c top)/\Sh (BX w wr a n cap nx)) (fun _ mv _=>15 - (intOf mv).toNat)
 case atStart=>exact ⟨0,id,rfl,rfl,by omega,⟨HR.1⟩,HG⟩
 case round =>
  clear HG;obtain ⟨m,c,rfl,rfl,hm15,hcl,HG⟩:=hrel
  by_cases hlt:m<15
  ·have m1:(m:Int)<=14:=by omega
   obtain ⟨f,hf⟩:∃ f,f=15 - (m+1):=⟨_,rfl⟩;have hcl':=hcl.1;rw [show 15 - m=f+1 by omega] at hcl'
   by_cases he:c=top
   ·have he':(c==top)=true:=by simpa using he
    have HE:Sh (R=true):=⟨by rw [hcl',qlc he]⟩;clear he hcl' hcl hf;go_wp2_with fail;go_ret;exact ⟨by rw [HE.1];rfl,HG.1.bel⟩
   ·have he':(c==top)=false:=by simpa using he
    obtain ⟨x0,x1⟩:=bwb2 HG.1.box;have HAT:=zS (HTS.1 wr HG.1.bel c);rcases qgt (nds rs) c with ⟨hat,hfn⟩ | ⟨i,hi,hat,hfn⟩
    ·have HE:Sh (R=false):=⟨by rw [hcl',qfk he hfn]⟩
     rw [hat] at HAT;clear he hcl' hcl hf hfn hat;go_wp2_with fail;refine HAT.1.mono ?_;rintro e W6 ⟨rfl,hb6⟩;have HG6:=zS (HG.1.below hb6);clear hb6;go_wp2_with fail;go_ret;exact ⟨by rw [HE.1];rfl,HG6.1.bel⟩
    ·have hir:i<rs.length:=by rw [qaf] at hi;exact hi
     have HNX:Sh (R=qal (nds rs) (15 - (m+1)) rs[i].nd.parent top):=⟨by rw [hcl',qej he hfn,qcw hir,<-hf]⟩;rw [hat] at HAT;have i0:(0:Int)<=(i:Int):=by omega
     have i1:(i:Int)<(n:Int):=by have:=HM.1.2;omega
     have i2:¬ (i:Int)<0:=by omega
     clear he hcl' hcl hf hfn hat hi;go_wp2_with fail;refine HAT.1.mono ?_;rintro e W6 ⟨rfl,hb6⟩;have HG6:=zS (HG.1.below hb6);clear hb6 x0 x1 HAT;have x0:=(HG6.1.box.2 0 _ rfl).1;obtain ⟨b,off,rfl,lb,hc⟩:=TR.nat (HM.1.1.below HG6.1.bel) (by omega);have e1:=(hc i hir).2.1;clear hc;generalize rs[i].nd.parent=pp at *;go_wp2_with fail;go_roundw
     case rel=>exact ⟨m+1,pp,rfl,by go_num,by omega,HNX,HG6⟩
     case measure=>simp [intOf];omega
  ·have hm:m=15:=by omega
   have HE:Sh (R=false):=⟨by rw [hcl.1,hm];rfl⟩;have m1:¬ (m:Int)<=14:=by omega
   clear hm hcl;go_wp2_with fail;go_ret;exact ⟨by rw [HE.1];rfl,HG.1.bel⟩
end
section
variable {w:World}
def kidS (c:Int) (nm:ByteArray) (z:Int) (n:NM):Int:=if n.parent=c/\n.name=nm/\z=0 then n.id else z
def kidF (ns:List NM) (c:Int) (nm:ByteArray):Int:=ns.foldl (kidS c nm) 0
theorem kid_take (ns:List NM) (c:Int) (nm:ByteArray) (k:Nat) (h:k<ns.length):(ns.take (k+1)).foldl (kidS c nm) 0=kidS c nm ((ns.take k).foldl (kidS c nm) 0) ns[k]:=by
 rw [List.take_succ_eq_append_getElem h,List.foldl_append]
 rfl
def findF (ns:List NM):List ByteArray->Int->Int
 | [],c=>c
 | p::ps,c=>if kidF ns c p=0 then 0 else findF ns ps (kidF ns c p)
theorem qmk (ns:List NM) (L:List ByteArray) (j:Nat) (c:Int) (h:j<L.length):findF ns (L.drop j) c=if kidF ns c (L.getD j ⟨#[]⟩)=0 then 0 else findF ns (L.drop (j+1)) (kidF ns c (L.getD j ⟨#[]⟩)):=by
 rw [List.drop_eq_getElem_cons h]
 conv=>lhs;unfold findF
 simp [List.getD,h]
def findX (T:TM) (p:ByteArray):Int:=if (splitB p).2=true/\0<=atI T.nodes 1 then findF T.nodes (splitB p).1 1 else 0
theorem own_crow9 {B n:Nat} {t:TypeId} {a:Option Addr} {c:Nat} {L:List Value} (h:w.ownsRow B t 1 (.slice a n c) n L) (hn:n=L.length):CRow w a L:=by
 rcases Nat.eq_zero_or_pos n with h0 | hp
 ·intro q
  omega
 ·obtain ⟨g,cap,e,_⟩:=qkp h hp
  have e1:a=some ⟨g,0,none⟩:=by injection e
  subst e1;exact (qan h).crow
attribute [local irreducible] nodeOk qae atI
theorem qco {v:Value} {T:TM} {lo hi:Nat} (p:ByteArray) (h:TSee w v T lo hi) (hf:NFit T) (hp:p.size<=1048576):Calls Tryz.prog 46 #[v,.string p] w fun e w'=>e = .returned (.int .i64 (findX T p))/\Below w.heap.size w w':=by
 have hl:T.nodes.length<=1048576:=by unfold NFit at hf;omega
 have h':=h;obtain ⟨a,cap,rs,rfl,hr,hm⟩:=h;obtain ⟨n,hn⟩:∃ n,n=rs.length:=⟨_,rfl⟩;rw [<-hn] at h' ⊢;have HTS:=zS (fun W (hW:Below w.heap.size w W)=>qgd 1 (h'.below hW) hl);have HSP:=zS (fun W=>qhu p W hp);have hnm:=qcm p;unfold OPost at HSP;obtain ⟨R,hR⟩:∃ R,R=findX T p:=⟨_,rfl⟩;rw [<-hR];unfold findX at hR;obtain ⟨L,ok,hre⟩:∃ L ok,splitB p=(L,ok):=⟨_,_,rfl⟩;rw [hre] at HSP hnm hR;obtain ⟨nodes,nx⟩:=T;dsimp only at hr HTS hR HSP hnm;subst hr;have HM:=zS (And.intro hm hn);have hn9:n<=1048576:=by dsimp only at hl;rw [qaf] at hl;omega
 have hl4:=hnm.2;have HR:=zS hR;obtain ⟨l,hle⟩:∃ l,l=L.length:=⟨_,rfl⟩;have HL:=zS hle;rw [<-hle] at HSP hl4;clear hm hf hR hn h' hl hre hnm hle hp
 cases ok with
 | false =>
  have HE:Sh (R=0):=⟨by rw [HR.1,if_neg (by simp)]⟩;go_enter Tryz.func46,Tryz.ntmps46;go_upto_region 1 with fail;refine qaa (fun W=>BX w W a n cap nx) (BX.new w a n cap nx 37) ?_;intro W hg;have HG:=zS hg;clear hg;go_wp2_with fail;refine (HSP.1 _).mono ?_;rintro e W1 ⟨sv,rfl,ho,hb1⟩;obtain ⟨sa,sc,rfl⟩:=qhw ho;have HG1:=zS (HG.1.below hb1);clear hb1 ho;go_wp2_with fail;go_ret;exact ⟨by rw [HE.1];rfl,HG1.1.bel⟩
 | true =>
  go_enter Tryz.func46,Tryz.ntmps46;go_upto_region 1 with fail;refine qaa (fun W=>BX w W a n cap nx) (BX.new w a n cap nx 37) ?_;intro W hg;have HG:=zS hg;clear hg;go_wp2_with fail;refine (HSP.1 _).mono ?_;rintro e W1 ⟨sv,rfl,ho,hb1⟩;obtain ⟨sa,sc,rfl⟩:=qhw ho;have HG1:=zS (And.intro (HG.1.below hb1) (own_crow9 ho (by rw [qph];exact HL.1)));obtain ⟨x0,x1⟩:=bwb2 HG1.1.1.box;clear hb1 ho HG HSP;have HAT:=zS (HTS.1 W1 HG1.1.1.bel);rcases qgt (nds rs) 1 with ⟨hat,_⟩ | ⟨i,_,hat,_⟩
  ·have HE:Sh (R=0):=⟨by rw [HR.1,if_neg (by rw [hat];simp)]⟩
   rw [hat] at HAT;clear hat;go_wp2_with fail;refine HAT.1.mono ?_;rintro e W2 ⟨rfl,hb2⟩;have HG2:=zS (HG1.1.1.below hb2);clear hb2;go_wp2_with fail;go_ret;exact ⟨by rw [HE.1];rfl,HG2.1.bel⟩
  ·have HRF:Sh (R=findF (nds rs) L 1):=⟨by rw [HR.1,if_pos ⟨trivial,by rw [hat];omega⟩]⟩
   rw [hat] at HAT;have i2:¬ (i:Int)<0:=by omega
   clear hat HR;go_wp2_with fail;refine HAT.1.mono ?_;rintro e W2 ⟨rfl,hb2⟩;have HG2:=zS (And.intro (HG1.1.1.below hb2) (HG1.1.2.stays hb2));clear hb2 x0 x1 HAT HG1;go_wp2_with fail;go_loopw [7,8] (fun cv jv wr=>∃ (j:Nat) (c:Int),cv = .int .i64 c/\jv = .int .i64 j/\j<=l/\Sh (R=findF (nds rs) (L.drop j) c)/\Sh (BX w wr a n cap nx/\CRow wr sa (tv L))) (fun _ jv _=>l - (intOf jv).toNat)
   case atStart=>exact ⟨0,1,rfl,rfl,Nat.zero_le _,⟨by rw [HRF.1];rfl⟩,HG2⟩
   case round =>
    clear HG2 HRF;obtain ⟨j,c,rfl,rfl,hj,HC,HG⟩:=hrel
    by_cases hlt:j<l
    ·have hjl:j<L.length:=by have:=HL.1;omega
     have j0:(0:Int)<=(j:Int):=by omega
     have j1:(j:Int)<(l:Int):=by omega
     have HST:=zS (HC.1.trans (qmk (nds rs) L j c hjl));have HPT:=zS (qox L j hjl);obtain ⟨x,hx⟩:∃ x,x=L.getD j ⟨#[]⟩:=⟨_,rfl⟩;rw [<-hx] at HST HPT;clear hx;go_wp2_with fail;go_loopw [9,10] (fun zv kv wq=>∃ (k:Nat) (z:Int),zv = .int .i64 z/\kv = .int .i64 k/\k<=n/\Sh (z=((nds rs).take k).foldl (kidS c x) 0)/\Sh (BX w wq a n cap nx/\CRow wq sa (tv L))) (fun _ kv _=>n - (intOf kv).toNat)
     case atStart=>exact ⟨0,0,rfl,rfl,Nat.zero_le _,⟨by simp⟩,HG⟩
     case round =>
      clear HG;obtain ⟨k,z,rfl,rfl,hk,HZ,HQ⟩:=hrel;obtain ⟨x0,x1⟩:=bwb2 HQ.1.1.box
      by_cases hkn:k<n
      ·have hkr:k<rs.length:=by have:=HM.1.2;omega
       have hkd:k<(nds rs).length:=by rw [qaf];exact hkr
       have k0:(0:Int)<=(k:Int):=by omega
       have k1:(k:Int)<(n:Int):=by omega
       have HSK:=zS (kid_take (nds rs) c x k hkd);rw [<-HZ.1,qrb rs k hkr] at HSK;obtain ⟨b,off,rfl,lb,hc⟩:=TR.nat (HM.1.1.below HQ.1.1.bel) (by omega);have e0:=(hc k hkr).1;have e1:=(hc k hkr).2.1;have e2:=(hc k hkr).2.2.1;obtain ⟨pb,po,rfl,plt,hpc⟩:=HQ.1.2 (by rw [qph];omega);have y0:=hpc j _ HPT.1;have HND:Sh (∀ q,BX w (wr.drewN q) (some ⟨b,off,none⟩) n cap nx/\CRow (wr.drewN q) (some ⟨pb,po,none⟩) (tv L)):=⟨fun q=>⟨HQ.1.1.below ⟨rfl,rfl,rfl,zL,fun _ _=>rfl⟩,HQ.1.2.stays ⟨rfl,rfl,rfl,zL,fun _ _=>rfl⟩⟩⟩;clear hc hpc;unfold kidS at HSK;generalize rs[k]=r at *
       by_cases p1:r.nd.parent=c
       ·have p1':(r.nd.parent==c)=true:=by simpa using p1
        by_cases p2:r.nd.name=x
        ·have p2':(r.nd.name.toList==x.toList)=true:=by rw [p2];simp
         by_cases p3:z=0
         ·have p3':(z==0)=true:=by simpa using p3
          have HN:Sh (r.nd.id=((nds rs).take (k+1)).foldl (kidS c x) 0):=⟨by
           have:=HSK.1;rw [if_pos ⟨p1,p2,p3⟩] at this
           exact this.symm⟩
          clear p1 p2 p3 HSK HZ HQ;go_wp2_with fail;go_quiet (fail)
          go_wp2_with fail;go_roundw
          case rel=>exact ⟨k+1,r.nd.id,rfl,by go_num,by omega,HN,⟨HND.1 _⟩⟩
          case measure=>simp [intOf];omega
         ·have p3':(z==0)=false:=by simpa using p3
          have HN:Sh (z=((nds rs).take (k+1)).foldl (kidS c x) 0):=⟨by
           have:=HSK.1;rw [if_neg (fun q=>p3 q.2.2)] at this
           exact this.symm⟩
          clear p1 p2 p3 HSK HZ HQ;go_wp2_with fail;go_quiet (fail)
          go_wp2_with fail;go_roundw
          case rel=>exact ⟨k+1,z,rfl,by go_num,by omega,HN,⟨HND.1 _⟩⟩
          case measure=>simp [intOf];omega
        ·have p2':=qsl p2
         have HN:Sh (z=((nds rs).take (k+1)).foldl (kidS c x) 0):=⟨by
          have:=HSK.1;rw [if_neg (fun q=>p2 q.2.1)] at this
          exact this.symm⟩
         clear p1 p2 HSK HZ HQ;go_wp2_with fail;go_quiet (fail)
         go_wp2_with fail;go_roundw
         case rel=>exact ⟨k+1,z,rfl,by go_num,by omega,HN,⟨HND.1 _⟩⟩
         case measure=>simp [intOf];omega
       ·have p1':(r.nd.parent==c)=false:=by simpa using p1
        have HN:Sh (z=((nds rs).take (k+1)).foldl (kidS c x) 0):=⟨by
         have:=HSK.1;rw [if_neg (fun q=>p1 q.1)] at this
         exact this.symm⟩
        clear p1 HSK HZ HQ;go_wp2_with fail;go_quiet (fail)
        go_wp2_with fail;go_roundw
        case rel=>exact ⟨k+1,z,rfl,by go_num,by omega,HN,⟨HND.1 _⟩⟩
        case measure=>simp [intOf];omega
      ·have k1:¬ (k:Int)<(n:Int):=by omega
       have hz:z=kidF (nds rs) c x:=by
        rw [HZ.1,List.take_of_length_le (by rw [qaf];have:=HM.1.2;omega)]
        rfl
       have hst:=HST.1;rw [<-hz] at hst;clear hz HST
       by_cases p3:z=0
       ·have p3':(z==0)=true:=by simpa using p3
        have HE:Sh (R=0):=⟨by rw [hst,if_pos p3]⟩;clear hst p3;go_wp2_with fail;go_ret;exact ⟨by rw [HE.1];rfl,HQ.1.1.bel⟩
       ·have p3':(z==0)=false:=by simpa using p3
        have HN:Sh (R=findF (nds rs) (L.drop (j+1)) z):=⟨by rw [hst,if_neg p3]⟩;clear hst p3;go_wp2_with fail;go_roundw
        case rel=>exact ⟨j+1,z,rfl,by go_num,by omega,HN,HQ⟩
        case measure=>simp [intOf];omega
    ·have j1:¬ (j:Int)<(l:Int):=by omega
     have HE:Sh (R=c):=⟨by
      rw [HC.1,List.drop_eq_nil_of_le (by have:=HL.1;omega)]
      rfl⟩
     go_wp2_with fail;go_ret;exact ⟨by rw [HE.1];rfl,HG.1.1.bel⟩
end
section
attribute [local irreducible] nodeOk qae atI
theorem specSchemaAt {w:World} {v:Value} {T:TM} {lo hi:Nat} (id:Int) (h:TSee w v T lo hi) (hf:NFit T):Calls Tryz.prog 86 #[v,.int .i64 id] w fun e w'=>e = .returned (.int .i64 (qbo T id))/\Below w.heap.size w w':=by
 have hl:T.nodes.length<=1048576:=by unfold NFit at hf;omega
 have h':=h;obtain ⟨a,cap,rs,rfl,hr,hm⟩:=h;obtain ⟨n,hn⟩:∃ n,n=rs.length:=⟨_,rfl⟩;rw [<-hn] at h' ⊢;have HTS:=zS (fun W (hW:Below w.heap.size w W) (c:Int)=>qgd c (h'.below hW) hl);have HTO:=zS (fun W (hW:Below w.heap.size w W)=>qdy (h'.below hW) hf);obtain ⟨R,hR⟩:∃ R,R=qbo T id:=⟨_,rfl⟩;rw [<-hR];unfold qbo at hR;obtain ⟨nodes,nx⟩:=T;dsimp only at hr HTS HTO hR;subst hr;have HM:=zS (And.intro hm hn);have hn9:n<=1048576:=by dsimp only at hl;rw [qaf] at hl;omega
 have HR:=zS hR;clear hm hf hR hn h' hl
 cases hok:qae ⟨nds rs,nx⟩ with
 | false =>
  have HE:Sh (R=0):=⟨by rw [HR.1,if_neg (by rw [hok];decide)]⟩;rw [hok] at HTO;clear hok;go_enter Tryz.func86,Tryz.ntmps86;go_upto_region 1 with fail;refine qaa (fun W=>BX w W a n cap nx) (BX.new w a n cap nx 37) ?_;intro W hg;have HG:=zS hg;obtain ⟨x0,x1⟩:=bwb2 hg.box;clear hg;go_wp2_with fail;refine (HTO.1 _ HG.1.bel).mono ?_;rintro e W1 ⟨rfl,hb1⟩;have HG1:=zS (HG.1.below hb1);clear hb1;go_wp2_with fail;go_ret;exact ⟨by rw [HE.1];rfl,HG1.1.bel⟩
 | true =>
  have HRR:Sh (R=qdb (nds rs) 15 id):=⟨by rw [HR.1,if_pos hok]⟩;rw [hok] at HTO;clear hok HR;go_enter Tryz.func86,Tryz.ntmps86;go_upto_region 1 with fail;refine qaa (fun W=>BX w W a n cap nx) (BX.new w a n cap nx 37) ?_;intro W hg;have HG:=zS hg;obtain ⟨x0,x1⟩:=bwb2 hg.box;clear hg;go_wp2_with fail;refine (HTO.1 _ HG.1.bel).mono ?_;rintro e W1 ⟨rfl,hb1⟩;have HG1:=zS (HG.1.below hb1);clear hb1 x0 x1 HG;go_wp2_with fail;go_loopw [1,5] (fun iv mv wr=>∃ (m:Nat) (c:Int),iv = .int .i64 c/\mv = .int .i64 m/\m<=15/\Sh (R=qdb (nds rs) (15 - m) c)/\Sh (BX w wr a n cap nx)) (fun _ mv _=>15 - (intOf mv).toNat)
  case atStart=>exact ⟨0,id,rfl,rfl,by omega,⟨HRR.1⟩,HG1⟩
  case round =>
   clear HG1;obtain ⟨m,c,rfl,rfl,hm15,hcl,HG⟩:=hrel
   by_cases hlt:m<15
   ·have m1:(m:Int)<=14:=by omega
    obtain ⟨f,hf⟩:∃ f,f=15 - (m+1):=⟨_,rfl⟩;have hcl':=hcl.1;rw [show 15 - m=f+1 by omega] at hcl';obtain ⟨x0,x1⟩:=bwb2 HG.1.box;have HAT:=zS (HTS.1 wr HG.1.bel c);rcases qgt (nds rs) c with ⟨hat,hfn⟩ | ⟨i,hi,hat,hfn⟩
    ·have HE:Sh (R=0):=⟨by rw [hcl',qge hfn]⟩
     rw [hat] at HAT;clear hcl' hcl hf hfn hat;go_wp2_with fail;refine HAT.1.mono ?_;rintro e W6 ⟨rfl,hb6⟩;have HG6:=zS (HG.1.below hb6);clear hb6;go_wp2_with fail;go_ret;exact ⟨by rw [HE.1];rfl,HG6.1.bel⟩
    ·have hir:i<rs.length:=by rw [qaf] at hi;exact hi
     have HNX:Sh (R=if rs[i].nd.schema ≠ 0 then rs[i].nd.schema else qdb (nds rs) (15 - (m+1)) rs[i].nd.parent):=⟨by rw [hcl',qjf hfn,qcw hir,<-hf]⟩;rw [hat] at HAT;have i0:(0:Int)<=(i:Int):=by omega
     have i1:(i:Int)<(n:Int):=by have:=HM.1.2;omega
     have i2:¬ (i:Int)<0:=by omega
     clear hcl' hcl hf hfn hat hi;go_wp2_with fail;refine HAT.1.mono ?_;rintro e W6 ⟨rfl,hb6⟩;have HG6:=zS (HG.1.below hb6);clear hb6 x0 x1 HAT;have x0:=(HG6.1.box.2 0 _ rfl).1;obtain ⟨b,off,rfl,lb,hc⟩:=TR.nat (HM.1.1.below HG6.1.bel) (by omega);have e1:=(hc i hir).2.1;have e4:=(hc i hir).2.2.2.2.1;clear hc;generalize rs[i].nd.parent=pp at *;generalize rs[i].nd.schema=ss at *
     by_cases hs:ss=0
     ·have hs':(ss != 0)=false:=by simpa using hs
      have HN2:Sh (R=qdb (nds rs) (15 - (m+1)) pp):=⟨by rw [HNX.1,if_neg (by simpa using hs)]⟩;clear hs HNX;go_wp2_with fail;go_roundw
      case rel=>exact ⟨m+1,pp,rfl,by go_num,by omega,HN2,HG6⟩
      case measure=>simp [intOf];omega
     ·have hs':(ss != 0)=true:=by simpa using hs
      have HE:Sh (R=ss):=⟨by rw [HNX.1,if_pos hs]⟩;clear hs HNX;go_wp2_with fail;go_ret;exact ⟨by rw [HE.1];rfl,HG6.1.bel⟩
   ·have hm:m=15:=by omega
    have HE:Sh (R=0):=⟨by rw [hcl.1,hm];rfl⟩;have m1:¬ (m:Int)<=14:=by omega
    clear hm hcl;go_wp2_with fail;go_ret;exact ⟨by rw [HE.1];rfl,HG.1.bel⟩
end
section
attribute [local irreducible] nodeOk qae atI qal
variable {v:Value} {w:World}
def qce (all ns:List NM) (id:Int):List Int:=(ns.filter fun n=>qal all 15 n.id id).map NM.id
theorem belowL_snoc (all ns:List NM) (n:NM) (id:Int):qce all (ns++[n]) id=qce all ns id++if qal all 15 n.id id=true then [n.id] else []:=by
 unfold qce;rw [List.filter_append,List.map_append]
 congr 1
 cases h:qal all 15 n.id id <;> simp [h]
theorem belowL_len (all ns:List NM) (id:Int):(qce all ns id).length<=ns.length:=by
 unfold qce;rw [List.length_map];exact List.length_filter_le _ _
def qap (T:TM) (id:Int):List Int:=if qae T=true/\0<=atI T.nodes id then qce T.nodes T.nodes id else []
theorem qpf (xs:List Int) (x:Int):ics xs++[.int .i64 x]=ics (xs++[x]):=by simp [ics]
theorem qiy {B C n sz:Nat} {t:TypeId} {L:List Value} (h:w.ownsRow B t sz v n L) (hC:C<=B):w.ownsRow C t sz v n L:=by
 obtain ⟨h1,h | ⟨g,cap,cur,e,hB,rest⟩⟩:=h
 ·exact ⟨h1,.inl h⟩
 ·exact ⟨h1,.inr ⟨g,cap,cur,e,Nat.le_trans hC hB,rest⟩⟩
theorem BX.grown {w W W':World} {a:Option Addr} {n cap:Nat} {nx:Int} {q:Option Nat} (h:BX w W a n cap nx) (hg:W.grownBy W' q) (hq:∀ k,q=some k->w.heap.size+1<=k):BX w W' a n cap nx:=by
 have hb:Below (w.heap.size+1) W W':=zB.grown hg (by have:=h.box.1;omega) hq;exact ⟨h.bel.trans (hb.mono (by omega)),h.box.below hb (by omega)⟩
theorem qle (all ns:List NM) (id:Int):qce all (ns.take 0) id=[]:=by simp [qce]
attribute [local irreducible] qce
theorem specBelowOf {T:TM} {lo hi:Nat} (id:Int) (h:TSee w v T lo hi) (hf:NFit T):Calls Tryz.prog 142 #[v,.int .i64 id] w fun e w'=>IPost (qap T id) w e w':=by
 have hl:T.nodes.length<=1048576:=by unfold NFit at hf;omega
 have h':=h;obtain ⟨a,cap,rs,rfl,hr,hm⟩:=h;obtain ⟨n,hn⟩:∃ n,n=rs.length:=⟨_,rfl⟩;rw [<-hn] at h' ⊢;have HTS:=zS (fun W (hW:Below w.heap.size w W) (c:Int)=>qgd c (h'.below hW) hl);have HTB:=zS (fun W (hW:Below w.heap.size w W) (c:Int)=>qld c id (h'.below hW) hf);have HTO:=zS (fun W (hW:Below w.heap.size w W)=>qdy (h'.below hW) hf);obtain ⟨R,hR⟩:∃ R,R=qap T id:=⟨_,rfl⟩;rw [<-hR];unfold qap at hR;obtain ⟨nodes,nx⟩:=T;dsimp only at hr HTS HTB HTO hR;subst hr;have HM:=zS (And.intro hm hn);have hn9:n<=1048576:=by dsimp only at hl;rw [qaf] at hl;omega
 have HR:=zS hR;clear hm hf hR hn h' hl
 cases hok:qae ⟨nds rs,nx⟩ with
 | false =>
  have HE:Sh (R=[]):=⟨by rw [HR.1,if_neg (by rw [hok];simp)]⟩;rw [hok] at HTO;clear hok;go_enter Tryz.func142,Tryz.ntmps142;go_upto_region 1 with fail;refine qaa (fun W=>BX w W a n cap nx) (BX.new w a n cap nx 37) ?_;intro W hg;have HG:=zS hg;obtain ⟨x0,x1⟩:=bwb2 hg.box;clear hg;go_wp2_with fail;refine (HTO.1 _ HG.1.bel).mono ?_;rintro e W1 ⟨rfl,hb1⟩;have HG1:=zS (HG.1.below hb1);clear hb1;go_wp2_with fail;go_ret;exact ⟨_,rfl,qgq (n:=0) (by rw [HE.1,List.length_nil]) (by rw [HE.1];exact World.ownsRow_made W1 #[] 0 HG1.1.bel.size (by decide) rfl),HG1.1.bel.alloc HG1.1.bel.size _⟩
 | true =>
  rw [hok] at HTO;rcases qgt (nds rs) id with ⟨hat,_⟩ | ⟨i0,hi0,hat,_⟩
  ·have HE:Sh (R=[]):=⟨by rw [HR.1,if_neg (by rw [hat];simp)]⟩
   clear hok;go_enter Tryz.func142,Tryz.ntmps142;go_upto_region 1 with fail;refine qaa (fun W=>BX w W a n cap nx) (BX.new w a n cap nx 37) ?_;intro W hg;have HG:=zS hg;obtain ⟨x0,x1⟩:=bwb2 hg.box;clear hg;go_wp2_with fail;refine (HTO.1 _ HG.1.bel).mono ?_;rintro e W1 ⟨rfl,hb1⟩;have HG1:=zS (HG.1.below hb1);clear hb1 x0 x1 HG;go_upto_region 4 with fail;refine qaa (fun W=>BX w W a n cap nx/\W.ownsRow (w.heap.size+1) 3 1 (.slice (some ⟨W1.heap.size,0,none⟩) 0 0) 0 []) ⟨HG1.1.below (zB.alloc zL _),World.ownsRow_made W1 #[] 0 (by have:=HG1.1.box.1;omega) (by decide) rfl⟩ ?_;rintro W2 ⟨hg2,ho2⟩;have HG2:=zS (And.intro hg2 ho2);obtain ⟨x0,x1⟩:=bwb2 hg2.box;have HAT:=zS (HTS.1 W2 hg2.bel id);rw [hat] at HAT;clear hg2 ho2 HG1 hat;go_wp2_with fail;refine HAT.1.mono ?_;rintro e W3 ⟨rfl,hb3⟩;have HG3:=zS (And.intro (HG2.1.1.below hb3) (HG2.1.2.kept (row:=none) ⟨hb3.os,hb3.tape,hb3.output,hb3.size,fun k hk _=>hb3.block k hk⟩ (Classical.em _)));clear hb3;go_wp2_with fail;go_ret;exact ⟨_,rfl,qgq (n:=0) (by rw [HE.1,List.length_nil]) (by rw [HE.1];exact qiy HG3.1.2 (by omega)),HG3.1.1.bel⟩
  ·have HRR:Sh (R=qce (nds rs) (nds rs) id):=⟨by rw [HR.1,if_pos ⟨hok,by omega⟩]⟩
   obtain ⟨t0,ht0,hty0,hty1,hty2⟩:=info_parts qjm;clear hok HR;go_enter Tryz.func142,Tryz.ntmps142;go_upto_region 1 with fail;refine qaa (fun W=>BX w W a n cap nx) (BX.new w a n cap nx 37) ?_;intro W hg;have HG:=zS hg;obtain ⟨x0,x1⟩:=bwb2 hg.box;clear hg;go_wp2_with fail;refine (HTO.1 _ HG.1.bel).mono ?_;rintro e W1 ⟨rfl,hb1⟩;have HG1:=zS (HG.1.below hb1);clear hb1 x0 x1 HG;go_upto_region 4 with fail;refine qaa (fun W=>BX w W a n cap nx/\W.ownsRow (w.heap.size+1) 3 1 (.slice (some ⟨W1.heap.size,0,none⟩) 0 0) 0 []) ⟨HG1.1.below (zB.alloc zL _),World.ownsRow_made W1 #[] 0 (by have:=HG1.1.box.1;omega) (by decide) rfl⟩ ?_;rintro W2 ⟨hg2,ho2⟩;have HG2:=zS (And.intro hg2 ho2);obtain ⟨x0,x1⟩:=bwb2 hg2.box;have HAT:=zS (HTS.1 W2 hg2.bel id);rw [hat] at HAT;have i2:¬ (i0:Int)<0:=by omega
   clear hg2 ho2 HG1 hat;go_wp2_with fail;refine HAT.1.mono ?_;rintro e W3 ⟨rfl,hb3⟩;have HG3:=zS (And.intro (HG2.1.1.below hb3) (HG2.1.2.kept (row:=none) ⟨hb3.os,hb3.tape,hb3.output,hb3.size,fun k hk _=>hb3.block k hk⟩ (Classical.em _)));clear hb3 x0 x1 HG2 HAT;have x0:=(HG3.1.1.box.2 0 _ rfl).1;go_wp2_with fail;go_loopw [5,6] (fun ov iv wr=>∃ (k l:Nat) (vv:Value),vv=ov/\iv = .int .i64 k/\k<=n/\l<=k/\Sh (l=(qce (nds rs) ((nds rs).take k) id).length)/\Sh (BX w wr a n cap nx/\wr.ownsRow (w.heap.size+1) 3 1 vv l (ics (qce (nds rs) ((nds rs).take k) id)))) (fun _ iv _=>n - (intOf iv).toNat)
   case atStart=>exact ⟨0,0,_,rfl,rfl,Nat.zero_le _,zL,⟨by rw [qle,List.length_nil]⟩,⟨by rw [qle];exact HG3.1⟩⟩
   case round =>
    clear HG3 x0;obtain ⟨k,l,ov,rfl,rfl,hk,hlk,HL,HG⟩:=hrel;obtain ⟨wo,rfl⟩:∃ wo,wo=wr:=⟨_,rfl⟩;obtain ⟨x0,x1⟩:=bwb2 HG.1.1.box
    by_cases hlt:k<n
    ·have hkr:k<rs.length:=by have:=HM.1.2;omega
     have k0:(0:Int)<=(k:Int):=by omega
     have k1:(k:Int)<(n:Int):=by omega
     obtain ⟨b,off,rfl,lb,hc⟩:=TR.nat (HM.1.1.below HG.1.1.bel) (by omega);have HC:=zS (hc k hkr);have e0:=(hc k hkr).1
     have hst:(nds rs).take (k+1)=(nds rs).take k++[rs[k].nd]:=by
      rw [List.take_succ_eq_append_getElem (by rw [qaf];exact hkr),qrb rs k hkr]
     have HBC:=zS (fun W (hW:Below wo.heap.size wo W)=>HTB.1 W (HG.1.1.bel.trans (hW.mono HG.1.1.bel.size)) rs[k].nd.id);have hbs:=belowL_snoc (nds rs) ((nds rs).take k) rs[k].nd id;rw [<-hst] at hbs;have HBS:=zS hbs;clear hc hst hbs;generalize rs[k]=r at *;have hwl:w.heap.size<wo.heap.size:=HG.1.1.box.1
     cases hbf:qal (nds rs) 15 r.nd.id id with
     | false =>
      rw [hbf] at HBC HBS;have HB':Sh (qce (nds rs) ((nds rs).take (k+1)) id=qce (nds rs) ((nds rs).take k) id):=⟨by rw [HBS.1];simp⟩;clear hbf HBS;go_wp2_with fail
      go_region_held3 (fun w'=>w'.cell? ⟨w.heap.size,0,none⟩=some (.slice (some ⟨b,off,none⟩) n cap)/\w'.cell? ⟨w.heap.size,1,none⟩=some (.int .i64 nx)/\w'.cell? ⟨b,off+k*9,none⟩=some (.int .i64 r.nd.id))
       (first | go_keep | (refine ⟨?_,?_,?_⟩ <;> first | (rw [hb9.cell (by exact hwl)];simp [*];done) | (rw [hb9.cell (by exact lb)];simp [*];done)))
       ((go_at_call 88;refine (HBC.1 _ (by first | exact zB | exact Below.drew zB)).mono ?_;rintro e w9 ⟨rfl,hb9⟩))
      all_goals
       have hb:Below wo.heap.size wo w9:=by first | exact (Below.drew zB).trans hb9 | exact hb9
       have HGN:=zS (And.intro (HG.1.1.below hb) (HG.1.2.kept (row:=none) ⟨hb.os,hb.tape,hb.output,hb.size,fun k hk _=>hb.block k hk⟩ (Classical.em _)));clear hb hb9;go_wp2_with fail;go_roundw
       case rel=>exact ⟨k+1,l,ov,rfl,by go_num,by omega,by omega,⟨by rw [HB'.out];exact HL.1⟩,⟨by rw [HB'.out];exact HGN.1⟩⟩
       case measure=>simp [intOf];omega
     | true =>
      rw [hbf] at HBC HBS;have HB':Sh (qce (nds rs) ((nds rs).take (k+1)) id=qce (nds rs) ((nds rs).take k) id++[r.nd.id]):=⟨by rw [HBS.1];simp⟩;clear hbf HBS;go_wp2_with fail
      go_region_held3 (fun w'=>w'.cell? ⟨w.heap.size,0,none⟩=some (.slice (some ⟨b,off,none⟩) n cap)/\w'.cell? ⟨w.heap.size,1,none⟩=some (.int .i64 nx)/\w'.cell? ⟨b,off+k*9,none⟩=some (.int .i64 r.nd.id))
       (first | go_keep | (refine ⟨?_,?_,?_⟩ <;> first | (rw [hb9.cell (by exact hwl)];simp [*];done) | (rw [hb9.cell (by exact lb)];simp [*];done)))
       ((go_at_call 88;refine (HBC.1 _ (by first | exact zB | exact Below.drew zB)).mono ?_;rintro e w9 ⟨rfl,hb9⟩))
      all_goals
       have hb:Below wo.heap.size wo w9:=by first | exact (Below.drew zB).trans hb9 | exact hb9
       have HGN:=zS (And.intro (HG.1.1.below hb) (HG.1.2.kept (row:=none) ⟨hb.os,hb.tape,hb.output,hb.size,fun k hk _=>hb.block k hk⟩ (Classical.em _)));have z0:=(HGN.1.1.box.2 0 _ rfl).1;have f0:=((HC.1.below hb lb)).1;have hs9:w.heap.size+1<=w9.heap.size:=by have:=HGN.1.1.box.1;omega
       have ho9:=HGN.1.2;clear hb hb9 x0 x1 e0;go_wp2_with (at_builtin;refine wpList_append_own _ rfl _ _ 140 rfl (w.heap.size+1) 3 t0 (.int .i64 0) 1 8 Tryz.underlying140 ht0 hty0 hty1 hty2 rfl (by decide) _ _ _ rfl (ho9.alloc _) ⟨w9.heap.size,0,none⟩ 1 1 [.int .i64 r.nd.id] rfl rfl (cell_one_new _ _ _) ?c2 ?c3 ?c4 ?c5 ?_)
       case c2=>first | rfl | (intro u hu;simp at hu;subst hu;rfl)
       case c3=>unfold maxLen;omega
       case c4=>omega
       case c5=>first | omega | (simp;omega)
       intro v' w10 ho10 hgrow _;rw [qpf,<-HB'.out] at ho10;have HGZ:=zS (And.intro ((HGN.1.1.below (zB.alloc zL _)).grown hgrow (fun j hj=>(ho9.lt j hj).1)) ho10);clear hgrow ho10 ho9;go_wp2_with fail;go_roundw
       case rel=>exact ⟨k+1,l+1,v',rfl,by go_num,by omega,by omega,⟨by rw [HB'.out,List.length_append,List.length_singleton,<-HL.1]⟩,HGZ⟩
       case measure=>simp [intOf];omega
    ·have k1:¬ (k:Int)<(n:Int):=by omega
     have hall:(nds rs).take k=nds rs:=List.take_of_length_le (by rw [qaf];have:=HM.1.2;omega);have ho:=HG.1.2;have hlen:=HL.1;rw [hall,<-HRR.1] at ho;rw [hall,<-HRR.1] at hlen;have HF:=zS (And.intro hlen ho);clear hall ho hlen;go_wp2_with fail;go_ret;exact ⟨ov,rfl,qgq HF.1.1.symm (qiy HF.1.2 (by omega)),HG.1.1.bel⟩
end
section
variable {id x:Int} {n:NM} {T:TM}
def usedL (ns:List NM):List Int->Int
 | []=>0
 | x::xs=>(ns.getD (atI ns x).toNat default).len+usedL ns xs
theorem usedL_append (ns:List NM) (xs ys:List Int):usedL ns (xs++ys)=usedL ns xs+usedL ns ys:=by
 induction xs with
 | nil=>simp [usedL]
 | cons x xs ih=>simp only [List.cons_append,usedL,ih];omega
theorem usedL_take (ns:List NM) (xs:List Int) (k:Nat) (h:k<xs.length):usedL ns (xs.take (k+1))=usedL ns (xs.take k)+(ns.getD (atI ns xs[k]).toNat default).len:=by
 rw [List.take_succ_eq_append_getElem h,usedL_append];simp [usedL]
def usedX (T:TM) (id:Int):Int:=usedL T.nodes (qap T id)
theorem qiz (h:fileOk n=true):0<=n.len/\n.len<=1000:=by
 unfold fileOk at h;simp only [Bool.and_eq_true,beq_iff_eq,decide_eq_true_eq,List.all_eq_true] at h;obtain ⟨⟨⟨_,h5⟩,h6⟩,h7⟩:=h;have:=(qsk h5).1;omega
theorem dirOk_len (h:dirOk n=true):n.len=0:=by
 unfold dirOk at h;simp only [Bool.and_eq_true,beq_iff_eq] at h;exact h.1.1.2
theorem qmm {i:Nat} (h:nodeOk T i=true):0<=(T.nodes.getD i default).len/\(T.nodes.getD i default).len<=1000:=by
 unfold nodeOk at h;simp only [Bool.and_eq_true] at h;have h3:=h.1.2;split at h3
 ·have:=dirOk_len h3;omega
 ·exact qiz h3
theorem qdc (h:qae T=true) {i:Nat} (hi:i<T.nodes.length):nodeOk T i=true:=by
 unfold qae at h;simp only [Bool.and_eq_true,List.all_eq_true] at h;exact h.2 i (List.mem_range.2 hi)
theorem qif (h:qae T=true):T.nodes.length<=14:=by
 unfold qae at h;simp only [Bool.and_eq_true,decide_eq_true_eq] at h;exact h.1.1.2
theorem belowX_mem (h:x ∈ qap T id):qae T=true/\∃ n ∈ T.nodes,n.id=x:=by
 unfold qap at h;split at h
 ·rename_i hc
  refine ⟨hc.1,?_⟩;unfold qce at h;obtain ⟨n,hn,rfl⟩:=List.mem_map.1 h;exact ⟨n,(List.mem_filter.1 hn).1,rfl⟩
 ·simp at h
theorem qpg (h:x ∈ qap T id):∃ i,i<T.nodes.length/\atI T.nodes x=(i:Int)/\0<=(T.nodes.getD i default).len/\(T.nodes.getD i default).len<=1000:=by
 obtain ⟨hok,n,hn,hid⟩:=belowX_mem h;rcases qgt T.nodes x with ⟨_,hno⟩ | ⟨i,hi,hat,_⟩
 ·have:=List.findIdx?_eq_none_iff.1 hno n hn
  simp [hid] at this
 ·exact ⟨i,hi,hat,qmm (qdc hok hi)⟩
theorem qfd (T:TM) (id:Int):(qap T id).length<=14:=by
 unfold qap;split
 ·rename_i hc
  have:=belowL_len T.nodes T.nodes id;have:=qif hc.1;omega
 ·simp
attribute [local irreducible] nodeOk qae atI qal qce qap
theorem qig {w:World} {v:Value} {lo hi:Nat} (id:Int) (h:TSee w v T lo hi) (hf:NFit T):Calls Tryz.prog 89 #[v,.int .i64 id] w fun e w'=>e = .returned (.int .i64 (usedX T id))/\Below w.heap.size w w':=by
 have hl:T.nodes.length<=1048576:=by unfold NFit at hf;omega
 have h':=h;obtain ⟨a,cap,rs,rfl,hr,hm⟩:=h;obtain ⟨n,hn⟩:∃ n,n=rs.length:=⟨_,rfl⟩;rw [<-hn] at h' ⊢;have HTS:=zS (fun W (hW:Below w.heap.size w W) (c:Int)=>qgd c (h'.below hW) hl);have HBO:=zS (fun W (hW:Below w.heap.size w W)=>specBelowOf id (h'.below hW) hf);obtain ⟨R,hR⟩:∃ R,R=usedX T id:=⟨_,rfl⟩;rw [<-hR];unfold usedX at hR;have HAT:=zS (fun x (hx:x ∈ qap T id)=>qpg hx);have hbl:=qfd T id;obtain ⟨B,hB⟩:∃ B,B=qap T id:=⟨_,rfl⟩;rw [<-hB] at HBO HAT hbl hR;obtain ⟨nodes,nx⟩:=T;dsimp only at hr HTS HBO hR HAT;subst hr;have HM:=zS (And.intro hm hn);have hn9:n<=1048576:=by dsimp only at hl;rw [qaf] at hl;omega
 have HR:=zS hR;obtain ⟨l,hle⟩:∃ l,l=B.length:=⟨_,rfl⟩;have HL:=zS hle;rw [<-hle] at hbl;clear hm hf hR hn h' hl hB hle;go_enter Tryz.func89,Tryz.ntmps89;go_upto_region 1 with fail;refine qaa (fun W=>BX w W a n cap nx) (BX.new w a n cap nx 37) ?_;intro W hg;have HG:=zS hg;obtain ⟨x0,x1⟩:=bwb2 hg.box;clear hg;go_wp2_with fail;refine (HBO.1 _ HG.1.bel).mono ?_;rintro e W1 ⟨bv,rfl,hia,hb1⟩;obtain ⟨ba',bc,rfl,_,hq⟩:=hia
 have hrow:CRow W1 ba' (ics B):=by
  rcases hq with e | ⟨g,rfl,_,_,hw⟩
  ·rw [e];intro h;simp [ics] at h
  ·exact hw.crow
 have HG1:=zS (And.intro (HG.1.below hb1) hrow);rw [<-HL.1];clear hb1 hq hrow x0 x1 HG;go_wp2_with fail;go_loopw [6,7] (fun sv iv wr=>∃ (k:Nat) (z:Int),sv = .int .i64 z/\iv = .int .i64 k/\k<=l/\0<=z/\z<=1000*k/\Sh (z=usedL (nds rs) (B.take k))/\Sh (BX w wr a n cap nx/\CRow wr ba' (ics B))) (fun _ iv _=>l - (intOf iv).toNat)
 case atStart=>exact ⟨0,0,rfl,rfl,Nat.zero_le _,by omega,by omega,⟨by simp [usedL]⟩,HG1⟩
 case round =>
  clear HG1;obtain ⟨k,z,rfl,rfl,hk,hz0,hz1,HZ,HG⟩:=hrel
  by_cases hlt:k<l
  ·have hkb:k<B.length:=by have:=HL.1;omega
   have k0:(0:Int)<=(k:Int):=by omega
   have k1:(k:Int)<(l:Int):=by omega
   obtain ⟨x0,x1⟩:=bwb2 HG.1.1.box;have hwl:w.heap.size<wr.heap.size:=HG.1.1.box.1;obtain ⟨bb,bo,rfl,blt,hbc⟩:=HG.1.2 (by rw [ics_len];omega);have hx:B[k] ∈ B:=List.getElem_mem hkb;have y0:=hbc k (.int .i64 B[k]) (by simp [ics,hkb]);obtain ⟨i,hi,hat,hn0,hn1⟩:=HAT.1 B[k] hx;have hir:i<rs.length:=by rw [qaf] at hi;exact hi
   have hst:=usedL_take (nds rs) B k hkb;rw [hat,Int.toNat_natCast,qcw hir] at hst;rw [qcw hir] at hn0 hn1;have HST:=zS hst;have i0:(0:Int)<=(i:Int):=by omega
   have i1:(i:Int)<(n:Int):=by have:=HM.1.2;omega
   obtain ⟨b,off,rfl,lb,hc⟩:=TR.nat (HM.1.1.below HG.1.1.bel) (by omega);have e6:=(hc i hir).2.2.2.2.2.2.1;have HCL:=zS (fun W (hW:Below wr.heap.size wr W)=>HTS.1 W (HG.1.1.bel.trans (hW.mono HG.1.1.bel.size)) B[k]);rw [hat] at HCL;have hwz:IntKind.i64.wrap (z+rs[i].nd.len)=z+rs[i].nd.len:=IntWalk.i64_in _ ⟨by omega,by omega⟩;clear hbc hc hst hat hi hx;generalize rs[i].nd.len=q at *;generalize B[k]=x at *;go_wp2_with fail
   go_region_held3 (fun w'=>w'.cell? ⟨w.heap.size,0,none⟩=some (.slice (some ⟨b,off,none⟩) n cap)/\w'.cell? ⟨w.heap.size,1,none⟩=some (.int .i64 nx)/\w'.cell? ⟨bb,bo+k,none⟩=some (.int .i64 x)/\w'.cell? ⟨b,off+i*9+6,none⟩=some (.int .i64 q))
    (first | go_keep | (refine ⟨?_,?_,?_,?_⟩ <;> first | (rw [hb9.cell (by exact hwl)];simp [*];done) | (rw [hb9.cell (by exact lb)];simp [*];done) | (rw [hb9.cell (by exact blt)];simp [*];done)))
    ((go_at_call 50;refine (HCL.1 _ (by first | exact zB | exact Below.drew zB)).mono ?_;rintro e w9 ⟨rfl,hb9⟩))
   all_goals
    have hb:Below wr.heap.size wr w9:=by first | exact (Below.drew zB).trans hb9 | exact hb9
    have HGN:=zS (And.intro (HG.1.1.below hb) (HG.1.2.stays hb));clear hb hb9;go_wp2_with fail;go_roundw
    case rel=>exact ⟨k+1,z+q,rfl,by go_num,by omega,by omega,by push_cast;omega,⟨by rw [HST.1,HZ.1]⟩,HGN⟩
    case measure=>simp [intOf];omega
  ·have k1:¬ (k:Int)<(l:Int):=by omega
   have HE:Sh (R=z):=⟨by rw [HR.1,HZ.1,List.take_of_length_le (by have:=HL.1;omega)]⟩;go_wp2_with fail;go_ret;exact ⟨by rw [HE.1];rfl,HG.1.1.bel⟩
end
section
variable {c m:Int} {f i st:Nat} {T:TM}
def roomF (T:TM) (m:Int):Nat->Nat->Int->Bool
 | 0,_,_=>false
 | f+1,st,id=>match T.nodes.findIdx? (fun n=>n.id==id) with
  | none=>decide (0<st)
  | some k=>if (T.nodes.getD k default).dir=true/\0<(T.nodes.getD k default).quota/\(T.nodes.getD k default).quota - usedX T id<m then false else roomF T m f (st+1) (T.nodes.getD k default).parent
theorem qgu (h:T.nodes.findIdx? (fun n=>n.id==c)=none):roomF T m (f+1) st c=decide (0<st):=by
 conv=>lhs;unfold roomF
 rw [h]
theorem qmn (h:T.nodes.findIdx? (fun n=>n.id==c)=some i):roomF T m (f+1) st c=if (T.nodes.getD i default).dir=true/\0<(T.nodes.getD i default).quota/\(T.nodes.getD i default).quota - usedX T c<m then false else roomF T m f (st+1) (T.nodes.getD i default).parent:=by
 conv=>lhs;unfold roomF
 rw [h]
def roomX (T:TM) (id m:Int):Bool:=if qae T=true then roomF T m 15 0 id else false
theorem qjg (h:nodeOk T i=true) (hd:(T.nodes.getD i default).dir=true):0<=(T.nodes.getD i default).quota/\(T.nodes.getD i default).quota<=1000:=by
 unfold nodeOk at h;simp only [Bool.and_eq_true] at h;have h3:=h.1.2;rw [if_pos hd] at h3;unfold dirOk at h3;simp only [Bool.and_eq_true] at h3;exact inI_iff.1 h3.1.1.1.2
theorem usedL_le {ns:List NM} {xs:List Int} (h:∀ x ∈ xs,0<=(ns.getD (atI ns x).toNat default).len/\(ns.getD (atI ns x).toNat default).len<=1000):0<=usedL ns xs/\usedL ns xs<=1000*xs.length:=by
 induction xs with
 | nil=>simp [usedL]
 | cons x xs ih =>
  have h1:=ih (fun y hy=>h y (by simp [hy]));have h2:=h x (by simp);simp only [usedL,List.length_cons]
  push_cast
  omega
theorem qrc (T:TM) (id:Int):0<=usedX T id/\usedX T id<=14000:=by
 unfold usedX
 have h:=usedL_le (ns:=T.nodes) (xs:=qap T id) (fun x hx=>by
  obtain ⟨i,_,hat,h1⟩:=qpg hx
  rw [hat,Int.toNat_natCast];exact h1)
 have:=qfd T id;omega
attribute [local irreducible] nodeOk qae atI qal qce qap usedX
theorem specRoomFor {w:World} {v:Value} {lo hi:Nat} (id m:Int) (h:TSee w v T lo hi) (hf:NFit T):Calls Tryz.prog 90 #[v,.int .i64 id,.int .i64 m] w fun e w'=>e = .returned (.bool (roomX T id m))/\Below w.heap.size w w':=by
 have hl:T.nodes.length<=1048576:=by unfold NFit at hf;omega
 have h':=h;obtain ⟨a,cap,rs,rfl,hr,hm⟩:=h;obtain ⟨n,hn⟩:∃ n,n=rs.length:=⟨_,rfl⟩;rw [<-hn] at h' ⊢;have HTS:=zS (fun W (hW:Below w.heap.size w W) (c:Int)=>qgd c (h'.below hW) hl);have HUS:=zS (fun W (hW:Below w.heap.size w W) (c:Int)=>qig c (h'.below hW) hf);have HTO:=zS (fun W (hW:Below w.heap.size w W)=>qdy (h'.below hW) hf);obtain ⟨R,hR⟩:∃ R,R=roomX T id m:=⟨_,rfl⟩;rw [<-hR];unfold roomX at hR;obtain ⟨nodes,nx⟩:=T;dsimp only at hr HTS HUS HTO hR;subst hr;have HM:=zS (And.intro hm hn);have hn9:n<=1048576:=by dsimp only at hl;rw [qaf] at hl;omega
 have HR:=zS hR;clear hm hf hR hn h' hl
 cases hok:qae ⟨nds rs,nx⟩ with
 | false =>
  have HE:Sh (R=false):=⟨by rw [HR.1,if_neg (by rw [hok];decide)]⟩;rw [hok] at HTO;clear hok;go_enter Tryz.func90,Tryz.ntmps90;go_upto_region 1 with fail;refine qaa (fun W=>BX w W a n cap nx) (BX.new w a n cap nx 37) ?_;intro W hg;have HG:=zS hg;obtain ⟨x0,x1⟩:=bwb2 hg.box;clear hg;go_wp2_with fail;refine (HTO.1 _ HG.1.bel).mono ?_;rintro e W1 ⟨rfl,hb1⟩;have HG1:=zS (HG.1.below hb1);clear hb1;go_wp2_with fail;go_ret;exact ⟨by rw [HE.1];rfl,HG1.1.bel⟩
 | true =>
  have HRR:Sh (R=roomF ⟨nds rs,nx⟩ m 15 0 id):=⟨by rw [HR.1,if_pos hok]⟩;have HOK:=zS hok;rw [hok] at HTO;clear hok HR;go_enter Tryz.func90,Tryz.ntmps90;go_upto_region 1 with fail;refine qaa (fun W=>BX w W a n cap nx) (BX.new w a n cap nx 37) ?_;intro W hg;have HG:=zS hg;obtain ⟨x0,x1⟩:=bwb2 hg.box;clear hg;go_wp2_with fail;refine (HTO.1 _ HG.1.bel).mono ?_;rintro e W1 ⟨rfl,hb1⟩;have HG1:=zS (HG.1.below hb1);clear hb1 x0 x1 HG;go_wp2_with fail;go_loopw [1,7] (fun iv mv wr=>∃ (s:Nat) (c:Int),iv = .int .i64 c/\mv = .int .i64 s/\s<=15/\Sh (R=roomF ⟨nds rs,nx⟩ m (15 - s) s c)/\Sh (BX w wr a n cap nx)) (fun _ mv _=>15 - (intOf mv).toNat)
  case atStart=>exact ⟨0,id,rfl,rfl,by omega,⟨HRR.1⟩,HG1⟩
  case round =>
   clear HG1;obtain ⟨s,c,rfl,rfl,hs15,hcl,HG⟩:=hrel
   by_cases hlt:s<15
   ·have m1:(s:Int)<=14:=by omega
    obtain ⟨f,hf⟩:∃ f,f=15 - (s+1):=⟨_,rfl⟩;have hcl':=hcl.1;rw [show 15 - s=f+1 by omega] at hcl';obtain ⟨x0,x1⟩:=bwb2 HG.1.box;have HAT:=zS (HTS.1 wr HG.1.bel c);rcases qgt (nds rs) c with ⟨hat,hfn⟩ | ⟨i,hi,hat,hfn⟩
    ·have HE:Sh (R=decide ((0:Int)<(s:Int))):=⟨by rw [hcl',qgu hfn];exact decide_eq_decide.2 ⟨fun h=>by omega,fun h=>by omega⟩⟩
     rw [hat] at HAT;clear hcl' hcl hf hfn hat
     by_cases hs0:0<s
     ·have hsI:(0:Int)<(s:Int):=by omega
      have HF:Sh (R=true):=⟨by rw [HE.1,decide_eq_true hsI]⟩;clear HE;go_wp2_with fail;refine HAT.1.mono ?_;rintro e W6 ⟨rfl,hb6⟩;have HG6:=zS (HG.1.below hb6);clear hb6;go_wp2_with fail;go_ret;exact ⟨by rw [HF.1];first | rfl | simp [hs0],HG6.1.bel⟩
     ·have hs1:s=0:=by omega
      subst hs1;have HF:Sh (R=false):=⟨by rw [HE.1];rfl⟩;clear HE;go_wp2_with fail;refine HAT.1.mono ?_;rintro e W6 ⟨rfl,hb6⟩;have HG6:=zS (HG.1.below hb6);clear hb6;go_wp2_with fail;go_ret;exact ⟨by rw [HF.1];rfl,HG6.1.bel⟩
    ·have hir:i<rs.length:=by rw [qaf] at hi;exact hi
     have hnk:=qdc HOK.1 (i:=i) hi;have hqd:=fun hd=>qjg hnk hd;have hus:=qrc ⟨nds rs,nx⟩ c;have HNX:Sh (R=if rs[i].nd.dir=true/\0<rs[i].nd.quota/\rs[i].nd.quota - usedX ⟨nds rs,nx⟩ c<m then false else roomF ⟨nds rs,nx⟩ m (15 - (s+1)) (s+1) rs[i].nd.parent):=⟨by rw [hcl',qmn hfn];dsimp only;rw [qcw hir,<-hf]⟩;dsimp only at hqd;rw [qcw hir] at hqd;rw [hat] at HAT;have i0:(0:Int)<=(i:Int):=by omega
     have i1:(i:Int)<(n:Int):=by have:=HM.1.2;omega
     have i2:¬ (i:Int)<0:=by omega
     clear hcl' hcl hf hfn hat hi hnk;go_wp2_with fail;refine HAT.1.mono ?_;rintro e W6 ⟨rfl,hb6⟩;have HG6:=zS (HG.1.below hb6);clear hb6 x0 x1 HAT HG;obtain ⟨x0,x1⟩:=bwb2 HG6.1.box;have hwl:w.heap.size<W6.heap.size:=HG6.1.box.1;obtain ⟨b,off,rfl,lb,hc⟩:=TR.nat (HM.1.1.below HG6.1.bel) (by omega);have HC:=zS (hc i hir);have e1:=(hc i hir).2.1;have e3:=(hc i hir).2.2.2.1;have e5:=(hc i hir).2.2.2.2.2.1;have HUC:=zS (fun W (hW:Below W6.heap.size W6 W)=>HUS.1 W (HG6.1.bel.trans (hW.mono HG6.1.bel.size)) c);clear hc;generalize usedX ⟨nds rs,nx⟩ c=u at *;generalize rs[i]=r at *
     cases hd:r.nd.dir with
     | false =>
      rw [hd] at e3;have HN2:Sh (R=roomF ⟨nds rs,nx⟩ m (15 - (s+1)) (s+1) r.nd.parent):=⟨by rw [HNX.1,if_neg (by rw [hd];simp)]⟩;clear hd HNX hqd;go_wp2_with fail;go_quiet (fail)
      go_wp2_with fail;go_roundw
      case rel=>exact ⟨s+1,r.nd.parent,rfl,by go_num,by omega,HN2,⟨HG6.1.below ⟨rfl,rfl,rfl,zL,fun _ _=>rfl⟩⟩⟩
      case measure=>simp [intOf];omega
     | true =>
      rw [hd] at e3;have hq:=hqd hd
      by_cases hq0:0<r.nd.quota
      ·have hq0':decide ((0:Int)<r.nd.quota)=true:=by simpa using hq0
       have hwq:IntKind.i64.wrap (r.nd.quota - u)=r.nd.quota - u:=IntWalk.i64_in _ ⟨by omega,by omega⟩
       have HNX':Sh (R=if r.nd.quota - u<m then false else roomF ⟨nds rs,nx⟩ m (15 - (s+1)) (s+1) r.nd.parent):=⟨by
        rw [HNX.1]
        by_cases hc:r.nd.quota - u<m
        ·rw [if_pos hc,if_pos ⟨hd,hq0,hc⟩]
        ·rw [if_neg hc,if_neg (fun q=>hc q.2.2)]⟩
       clear hd HNX hqd;go_wp2_with fail
       go_region_held3 (fun w'=>w'.cell? ⟨w.heap.size,0,none⟩=some (.slice (some ⟨b,off,none⟩) n cap)/\w'.cell? ⟨w.heap.size,1,none⟩=some (.int .i64 nx)/\w'.cell? ⟨b,off+i*9+3,none⟩=some (.bool true)/\w'.cell? ⟨b,off+i*9+5,none⟩=some (.int .i64 r.nd.quota))
        (first | go_keep | (refine ⟨?_,?_,?_,?_⟩ <;> first | (rw [hb9.cell (by exact hwl)];simp [*];done) | (rw [hb9.cell (by exact lb)];simp [*];done)))
        ((go_at_call 89;refine (HUC.1 _ (by first | exact zB | exact Below.drew zB)).mono ?_;rintro e w9 ⟨rfl,hb9⟩))
       all_goals
        have hb:Below W6.heap.size W6 w9:=by first | exact (Below.drew zB).trans hb9 | exact hb9
        have HG9:=zS (HG6.1.below hb);have z0:=(HG9.1.box.2 0 _ rfl).1;have f1:=(HC.1.below hb lb).2.1;clear hb hb9
        by_cases hc:r.nd.quota - u<m
        ·have hc':decide (r.nd.quota - u<m)=true:=by simpa using hc
         have HE:Sh (R=false):=⟨by rw [HNX'.out,if_pos hc]⟩;clear HNX';go_wp2_with fail;go_ret;exact ⟨by rw [HE.1];rfl,HG9.1.bel⟩
        ·have hc':decide (r.nd.quota - u<m)=false:=by simpa using hc
         have HN2:Sh (R=roomF ⟨nds rs,nx⟩ m (15 - (s+1)) (s+1) r.nd.parent):=⟨by rw [HNX'.out,if_neg hc]⟩;clear HNX';go_wp2_with fail;go_roundw
         case rel=>exact ⟨s+1,r.nd.parent,rfl,by go_num,by omega,HN2,HG9⟩
         case measure=>simp [intOf];omega
      ·have hq0':decide ((0:Int)<r.nd.quota)=false:=by simpa using hq0
       have HN2:Sh (R=roomF ⟨nds rs,nx⟩ m (15 - (s+1)) (s+1) r.nd.parent):=⟨by rw [HNX.1,if_neg (fun q=>hq0 q.2.1)]⟩;clear hd HNX hqd;go_wp2_with fail;go_quiet (fail)
       go_wp2_with fail;go_roundw
       case rel=>exact ⟨s+1,r.nd.parent,rfl,by go_num,by omega,HN2,⟨HG6.1.below ⟨rfl,rfl,rfl,zL,fun _ _=>rfl⟩⟩⟩
       case measure=>simp [intOf];omega
   ·have hm:s=15:=by omega
    have HE:Sh (R=false):=⟨by rw [hcl.1,hm];rfl⟩;have m1:¬ (s:Int)<=14:=by omega
    clear hm hcl;go_wp2_with fail;go_ret;exact ⟨by rw [HE.1];rfl,HG.1.bel⟩
end
def plc (T:TM) (id:Int):Nat:=(atI T.nodes id).toNat
def ndAt (T:TM) (k:Nat):NM:=T.nodes.getD k default
def setN (T:TM) (k:Nat) (x:NM):TM:=⟨T.nodes.set k x,T.next⟩
def upX (T:TM) (p:ByteArray):Int:=findX T (qab p).1
def addT (T:TM) (p:ByteArray) (x:NM):TM:=⟨T.nodes++[{ x with id:=T.next,parent:=upX T p,name:=(qab p).2.1,schema:=if x.dir then x.schema else qbo T (upX T p) }],T.next+1⟩
def addX (T:TM) (p:ByteArray) (x:NM):TM × Int:=
 if upX T p=0 then (T,1)
 else if (ndAt T (plc T (upX T p))).dir=false then (T,3)
 else if findX T p ≠ 0 then (T,2)
 else if T.nodes.length=14\/T.next=100000\/qae (addT T p x)=false then (T,8)
 else (addT T p x,0)
def moveT (T:TM) (p:ByteArray) (id:Int):TM:=setN T (plc T id) { ndAt T (plc T id) with parent:=upX T p,name:=(qab p).2.1 }
def moveX (T:TM) (p:ByteArray) (id:Int):TM × Int:=
 if upX T p=0 then (T,1)
 else if (ndAt T (plc T (upX T p))).dir=false then (T,3)
 else if findX T p ≠ 0 then (T,2)
 else if qal T.nodes 15 (upX T p) id=true then (T,7)
 else if qae (moveT T p id)=false then (T,8)
 else (moveT T p id,0)
def dropT (T:TM) (id:Int):TM:=⟨T.nodes.filter (fun n=>!qal T.nodes 15 n.id id),T.next⟩
def setX (T:TM) (e:EM) (k:Nat):TM × Int:=
 if (ndAt T k).dir=false then (T,3)
 else if e.kind=5 then (setN T k { ndAt T k with schema:=e.num },0)
 else if 0<e.num/\e.num<usedX T (ndAt T k).id then (T,5)
 else (setN T k { ndAt T k with quota:=e.num },0)
def newP (g:Int):List Int->List PM
 | []=>[]
 | l::ls=>⟨g,l⟩::newP (g+1) ls
theorem qff (g:Int) (ls:List Int):(newP g ls).length=ls.length:=by
 induction ls generalizing g with
 | nil=>rfl
 | cons l ls ih=>simp [newP,ih]
theorem qne (g:Int) (ls:List Int) (j:Nat) (h:j<ls.length):newP g (ls.take (j+1))=newP g (ls.take j)++[⟨g+j,ls[j]⟩]:=by
 induction ls generalizing g j with
 | nil=>simp at h
 | cons l ls ih =>
  cases j with
  | zero=>simp [newP]
  | succ j =>
   have:=ih (g+1) j (by simpa using h);simp only [List.take_succ_cons,newP,this,List.getElem_cons_succ,List.cons_append];simp;omega
def qcd (T:TM) (e:EM) (k:Nat) (g:Int):TM × Int:=
 if (ndAt T k).dir=true then (T,3)
 else if ((e.kind==9) != ((ndAt T k).writer==0))=true then (T,6)
 else if e.kind=9 then (setN T k { ndAt T k with writer:=e.who },0)
 else if e.kind=8 then (setN T k { ndAt T k with writer:=0 },0)
 else if roomX T (ndAt T k).id e.num=false\/1000<(ndAt T k).len+e.num then (T,5)
 else if 40<(ndAt T k).pieces.length+(qaw (ndAt T k).schema e.num).length then (T,8)
 else (setN T k { ndAt T k with pieces:=(ndAt T k).pieces++newP g (qaw (ndAt T k).schema e.num),len:=(ndAt T k).len+e.num },0)
def newDir:NM:=⟨0,0,⟨#[]⟩,true,0,0,0,[],0⟩
def qea (who:Int):NM:=⟨0,0,⟨#[]⟩,false,0,0,0,[],who⟩
def mayX (T:TM) (e:EM) (g:Int):Bool:=qae T&&qaq e&&inI g 1 99000
def qak (T:TM) (e:EM) (g:Int):TM × Int:=
 if mayX T e g=false then (T,7)
 else if e.kind=10 then (T,0)
 else if e.kind=1 then addX T e.path newDir
 else if e.kind=2 then addX T e.path (qea e.who)
 else if findX T e.path=0 then (T,1)
 else if e.kind=3 then moveX T e.dest (findX T e.path)
 else if e.kind=4 then (dropT T (findX T e.path),0)
 else if e.kind=5\/e.kind=6 then setX T e (plc T (findX T e.path))
 else qcd T e (plc T (findX T e.path)) g
def qay (T:TM) (e:EM) (g:Int):Int:=
 if (qak T e g).2 ≠ 0 then g
 else if e.kind=10 then g+20
 else if e.kind ≠ 7 then g
 else g+(ndAt (qak T e g).1 (plc T (findX T e.path))).pieces.length - (ndAt T (plc T (findX T e.path))).pieces.length
section
variable {L:List (Nat × List Value)} {rs:List NR} {r:NR} {B cap g k n:Nat} {q:Option Nat} {v:Value} {w w' w0:World}
structure MB (w0 w:World) (L:List (Nat × List Value)):Prop where
 box:∀ p ∈ L,WCells w p.1 p.2/\w0.heap.size<=p.1
 dist:L.Pairwise fun p q=>p.1 ≠ q.1
 bel:Below w0.heap.size w0 w
theorem MB.nil (w:World):MB w w []:=⟨by simp,List.Pairwise.nil,zB⟩
theorem MB.below (h:MB w0 w L) (hb:Below w.heap.size w w'):MB w0 w' L:=
 ⟨fun p hp=>⟨(h.box p hp).1.grow hb,(h.box p hp).2⟩,h.dist,h.bel.trans (hb.mono h.bel.size)⟩
theorem MB.new (h:MB w0 w L) (cs:Array Value) (t:TypeId):MB w0 (w.alloc (.cells cs t)) ((w.heap.size,cs.toList)::L):=by
 have hb:Below w.heap.size w (w.alloc (.cells cs t)):=zB.alloc zL _;refine ⟨fun p hp=>?_,List.pairwise_cons.2 ⟨fun q hq=>?_,h.dist⟩,(h.below hb).bel⟩
 ·rcases List.mem_cons.1 hp with rfl | hp
  ·exact ⟨qac w cs t,h.bel.size⟩
  ·exact (h.below hb).box p hp
 ·have:=(h.box q hq).1.1
  show w.heap.size ≠ q.1
  omega
theorem MB.at (h:MB w0 w L) (i:Nat) {g:Nat} {X:List Value} (hi:L[i]?=some (g,X)):WCells w g X/\w0.heap.size<=g:=h.box _ (List.mem_of_getElem? hi)
theorem MB.put (h:MB w0 w L) (i:Nat) {g:Nat} {X:List Value} (hi:L[i]?=some (g,X)) (j:Nat) (v:Value) (hj:j<X.length):MB w0 (w.setCell ⟨g,j,none⟩ v) (L.set i (g,X.set j v)):=by
 obtain ⟨hl,he⟩:=List.getElem?_eq_some_iff.1 hi;have hd:=List.pairwise_iff_getElem.1 h.dist;have hk:=h.at i hi;refine ⟨fun p hp=>?_,List.pairwise_iff_getElem.2 fun a b ha hb hab=>?_,h.bel.setCell (p:=⟨g,j,none⟩) hk.2 _⟩
 ·obtain ⟨k,hk',rfl⟩:=List.mem_iff_getElem.1 hp
  rw [List.length_set] at hk';rw [List.getElem_set];split
  ·exact ⟨hk.1.set j v hj,hk.2⟩
  ·rename_i hne
   refine ⟨(h.box _ (List.getElem_mem hk')).1.other _ _ ?_,(h.box _ (List.getElem_mem hk')).2⟩
   show L[k].1 ≠ g
   have e:L[i].1=g:=by rw [he]
   rcases Nat.lt_or_gt_of_ne hne with q | q
   ·have:=hd i k hl hk' q;omega
   ·have:=hd k i hk' hl q;omega
 ·rw [List.length_set] at ha hb
  have:=hd a b ha hb hab;have e:L[i].1=g:=by rw [he]
  rw [List.getElem_set,List.getElem_set];split
  ·rename_i h1
   subst h1;split
   ·omega
   ·show g ≠ L[b].1;omega
  ·split
   ·rename_i h2
    subst h2
    show L[a].1 ≠ g
    omega
   ·exact this
theorem MB.far (h:MB w0 w L) (hg:w.grownBy w' q) (hq:∀ p ∈ L,q ≠ some p.1) (h0:∀ k,q=some k->w0.heap.size<=k):MB w0 w' L:=
 ⟨fun p hp=>⟨wc_by (h.box p hp).1 hg (hq p hp),(h.box p hp).2⟩,h.dist,h.bel.grown hg h.bel.size h0⟩
theorem qih (rs:List NR) (k:Nat) (hk:k<rs.length) (f:Nat) (hf:f<9) (x:Value) (r:NR) (hc:qaj r=(qaj rs[k]).set f x):(ncs rs).set (k*9+f) x=ncs (rs.set k r):=by
 apply List.ext_getElem?;intro i;rw [List.getElem?_set];have hlen:=qes rs;have hlen2:(ncs (rs.set k r)).length=rs.length*9:=by rw [qes,List.length_set]
 by_cases hi:i<rs.length*9
 ·have e1:i / 9<rs.length:=by omega
  have e2:i % 9<9:=by omega
  have e3:i=i / 9*9+i % 9:=by omega
  have a1:(ncs rs)[i]?=(qaj rs[i / 9])[i % 9]?:=by
   rw [show (ncs rs)[i]?=(ncs rs)[i / 9*9+i % 9]? by rw [<-e3]];exact flat_get qai rs (i / 9) e1 (i % 9) e2
  have a2:(ncs (rs.set k r))[i]?=(qaj ((rs.set k r)[i / 9]'(by rw [List.length_set];exact e1)))[i % 9]?:=by
   rw [show (ncs (rs.set k r))[i]?=(ncs (rs.set k r))[i / 9*9+i % 9]? by rw [<-e3]];exact flat_get qai (rs.set k r) (i / 9) (by rw [List.length_set];exact e1) (i % 9) e2
  rw [a2,List.getElem_set]
  by_cases hik:k*9+f=i
  ·have b1:k=i / 9:=by omega
   have b2:f=i % 9:=by omega
   rw [if_pos hik,if_pos b1,hc,<-b2,List.getElem?_set_self (by rw [qai];exact hf),if_pos (by rw [hlen];omega)]
  ·rw [if_neg hik,a1]
   by_cases b1:k=i / 9
   ·rw [if_pos b1,hc,List.getElem?_set_ne (by omega)]
    congr 2
    exact (getElem_congr_idx b1).symm
   ·rw [if_neg b1]
 ·rw [if_neg (by omega),List.getElem?_eq_none (by omega),List.getElem?_eq_none (by omega)]
theorem qgf {B n c sz:Nat} {t:TypeId} {q:Addr} {L:List Value} (h:w.ownsRow B t sz (.slice (some q) n c) n L):q=⟨q.block,0,none⟩:=by
 rcases h.2 with ⟨e,_⟩ | ⟨g,cap,cur,e,_⟩
 ·cases e
 ·simp at e
  rw [e.1]
theorem NB.grow {w w5:World} {B n cap g k gg cap1:Nat} {o:Obj} {new:PM} (h:NB w B (.slice (some ⟨g,0,none⟩) n cap) rs) (hn:rs.length=n) (hk:rs[k]?=some r) (hgrow:((w.alloc o).drew).grownBy w5 (Value.slice r.loc r.nd.pieces.length r.cap).ownBlock)
  (ho:w5.ownsRow B 143 2 (.slice (some ⟨gg,0,none⟩) (r.nd.pieces.length+1) cap1) (r.nd.pieces.length+1) (pcs r.nd.pieces++qei new)) (hat:(Value.slice r.loc r.nd.pieces.length r.cap).ownBlock=some gg\/gg=w.heap.size+1) :
  NB (w5.setCell ⟨g,k*9+7,none⟩ (.slice (some ⟨gg,0,none⟩) (r.nd.pieces.length+1) cap1)) B (.slice (some ⟨g,0,none⟩) n cap) (rs.set k ⟨{ r.nd with pieces:=r.nd.pieces++[new] },some ⟨gg,0,none⟩,cap1⟩):=by
 subst hn;obtain ⟨hk',er⟩:=List.getElem?_eq_some_iff.1 hk;subst er;have hba:Below w.heap.size w (w.alloc o).drew:=(zB.alloc zL _).drew;have hN:=h.below hba;have hlt:∀ s ∈ rs,∀ q,s.loc=some q->q.block<w.heap.size:=fun s hs q e=>((h.rows s hs).lt q.block (by rw [e];rfl)).2;obtain ⟨cg,hcg⟩:=qau hN.own (show (Value.slice (some ⟨g,0,none⟩) rs.length cap).ownBlock=some g from rfl)
 have hgo:(Value.slice rs[k].loc rs[k].nd.pieces.length rs[k].cap).ownBlock ≠ some g:=fun e=>by
  obtain ⟨c1,h1⟩:=qau (hN.rows _ (List.getElem_mem hk')) e;rw [hcg] at h1;simp at h1
 have hown5:=hN.own.kept hgrow (.inr (by intro e;exact hgo e.symm))
 have hggg:gg ≠ g:=by
  have hgl:=(h.own.lt g rfl).2;rcases hat with e | e
  ·intro e2;rw [e2] at e;exact hgo e
  ·omega
 have hst:=(hown5.stored (k*9+7) (.slice (some ⟨gg,0,none⟩) (rs[k].nd.pieces.length+1) cap1)).1;have ha:=List.pairwise_iff_getElem.1 h.apart
 have hap:∀ j (hj:j<rs.length),j ≠ k->rs[j].loc ≠ none->rs[k].loc ≠ none->rs[j].loc ≠ rs[k].loc:=fun j hj hjk h1 h2=>by
  rcases Nat.lt_or_gt_of_ne hjk with q | q
  ·exact ha j k hj hk' q h1 h2
  ·exact fun e=>ha k j hk' hj q h2 h1 e.symm
 refine ⟨?_,fun s hs=>?_,?_⟩
 ·rw [List.length_set,<-qih rs k hk' 7 (by omega) (.slice (some ⟨gg,0,none⟩) (rs[k].nd.pieces.length+1) cap1) _ (by simp [qaj])]
  exact hst
 ·obtain ⟨j,hj,rfl⟩:=List.mem_iff_getElem.1 hs
  rw [List.length_set] at hj;rw [List.getElem_set];split
  ·have e:pcs (rs[k].nd.pieces++[new])=pcs rs[k].nd.pieces++qei new:=by simp [pcs]
   show World.ownsRow _ _ _ _ (.slice (some ⟨gg,0,none⟩) (rs[k].nd.pieces++[new]).length cap1) (rs[k].nd.pieces++[new]).length (pcs (rs[k].nd.pieces++[new]))
   rw [e,List.length_append,List.length_singleton];exact ho.kept (qam _ _ _ _) (.inr (by simp [Value.ownBlock];exact hggg))
  ·rename_i hjk
   have h1:w5.ownsRow B 143 2 (.slice rs[j].loc rs[j].nd.pieces.length rs[j].cap) rs[j].nd.pieces.length (pcs rs[j].nd.pieces):=by
    refine (hN.rows _ (List.getElem_mem hj)).kept hgrow ?_
    cases e:rs[j].loc with
    | none=>exact .inl rfl
    | some q =>
     refine .inr fun e2=>?_
     cases e3:rs[k].loc with
     | none=>rw [e3] at e2;cases e2
     | some q' =>
      have hne:=hap j hj (fun e=>hjk e.symm) (by rw [e];simp) (by rw [e3];simp);rw [e,e3] at hne;rw [e3] at e2;have z1:=qgf (by have:=h.rows _ (List.getElem_mem hj);rw [e] at this;exact this);have z2:=qgf (by have:=h.rows _ (List.getElem_mem hk');rw [e3] at this;exact this);simp [Value.ownBlock] at e2;exact hne (by rw [z1,z2,e2])
   refine h1.kept (qam _ _ _ _) ?_
   cases e:rs[j].loc with
   | none=>exact .inl rfl
   | some q =>
    refine .inr fun e2=>?_;obtain ⟨c1,h2⟩:=qau (hN.rows _ (List.getElem_mem hj)) (by rw [e];exact e2);rw [hcg] at h2;simp at h2
 ·have hnew:∀ j (hj:j<rs.length),j ≠ k->rs[j].loc ≠ some ⟨gg,0,none⟩:=fun j hj hjk e=>by
   rcases hat with q | q
   ·cases e3:rs[k].loc with
    | none=>rw [e3] at q;cases q
    | some q' =>
     rw [e3] at q;have z2:=qgf (by have:=h.rows _ (List.getElem_mem hk');rw [e3] at this;exact this);simp [Value.ownBlock] at q;exact hap j hj hjk (by rw [e];simp) (by rw [e3];simp) (by rw [e,e3,z2,q])
   ·have:=hlt _ (List.getElem_mem hj) _ e
    simp at this;omega
  refine List.pairwise_iff_getElem.2 fun a b ha' hb' hab=>?_;rw [List.length_set] at ha' hb';rw [List.getElem_set,List.getElem_set];split
  ·rename_i h1
   rw [if_neg (by omega)];intro _ _ e;exact hnew b hb' (by omega) e.symm
  ·split
   ·rename_i h1 h2
    intro _ _ e;exact hnew a ha' (by omega) e
   ·exact ha a b ha' hb' hab
theorem NB.put (h:NB w B (.slice (some ⟨g,0,none⟩) rs.length cap) rs) (k:Nat) (hk:k<rs.length) (f:Nat) (hf:f<9) (x:Value) (r:NR) (hc:qaj r=(qaj rs[k]).set f x) (hl:r.loc=rs[k].loc) (hcp:r.cap=rs[k].cap) (hp:r.nd.pieces=rs[k].nd.pieces) :
  NB (w.setCell ⟨g,k*9+f,none⟩ x) B (.slice (some ⟨g,0,none⟩) rs.length cap) (rs.set k r):=by
 have hgb:=qam w g (k*9+f) x;have hst:=(h.own.stored (k*9+f) x).1;have hcs:=qih rs k hk f hf x r hc;refine ⟨?_,fun s hs=>?_,?_⟩
 ·rw [<-hcs,List.length_set]
  exact hst
 ·have hs':∃ s' ∈ rs,s.loc=s'.loc/\s.cap=s'.cap/\s.nd.pieces=s'.nd.pieces:=by
   rcases List.mem_or_eq_of_mem_set hs with q | q
   ·exact ⟨s,q,rfl,rfl,rfl⟩
   ·subst q;exact ⟨rs[k],List.getElem_mem hk,hl,hcp,hp⟩
  obtain ⟨s',hm,e1,e2,e3⟩:=hs';rw [e1,e2,e3];refine (h.rows s' hm).kept hgb ?_
  cases e:(Value.slice s'.loc s'.nd.pieces.length s'.cap).ownBlock with
  | none=>exact .inl rfl
  | some q =>
   refine .inr fun e2=>?_;obtain ⟨c1,h1⟩:=qau (h.rows s' hm) e;obtain ⟨c2,h2⟩:=qau h.own (show (Value.slice (some ⟨g,0,none⟩) rs.length cap).ownBlock=some g from rfl);cases e2;rw [h1] at h2;simp at h2
 ·have ha:=List.pairwise_iff_getElem.1 h.apart
  refine List.pairwise_iff_getElem.2 fun a b ha' hb' hab=>?_;rw [List.length_set] at ha' hb';have:=ha a b ha' hb' hab;rw [List.getElem_set,List.getElem_set];split
  ·rename_i h1
   subst h1;rw [if_neg (by omega),hl];exact this
  ·split
   ·rename_i h2
    subst h2;rw [hl];exact this
   ·exact this
theorem NB.cellK (h:NB w B (.slice (some ⟨g,0,none⟩) n cap) rs) (hn:rs.length=n) (hk:rs[k]?=some r) (f:Nat) (v:Value) (hv:(qaj r)[f]?=some v):w.cell? ⟨g,k*9+f,none⟩=some v/\w.frozen? ⟨g,k*9+f,none⟩=false:=by
 subst hn;obtain ⟨hk',e⟩:=List.getElem?_eq_some_iff.1 hk;have hw:=qan h.own;have hf:f<9:=by have:=(List.getElem?_eq_some_iff.1 hv).1;rw [qai] at this;exact this
 exact hw.2 _ _ ((flat_get qai rs k hk' f hf).trans (by rw [e];exact hv))
theorem NB.putK (h:NB w B (.slice (some ⟨g,0,none⟩) n cap) rs) (hn:rs.length=n) (hk:rs[k]?=some r) (f:Nat) (hf:f<9) (x:Value) (r':NR) (hc:qaj r'=(qaj r).set f x) (hl:r'.loc=r.loc) (hcp:r'.cap=r.cap) (hp:r'.nd.pieces=r.nd.pieces) :
  NB (w.setCell ⟨g,k*9+f,none⟩ x) B (.slice (some ⟨g,0,none⟩) n cap) (rs.set k r'):=by
 subst hn;obtain ⟨hk',e⟩:=List.getElem?_eq_some_iff.1 hk;subst e;exact h.put k hk' f hf x r' hc hl hcp hp
theorem qpk {rs rs2:List NR} (h:nds rs2=nds rs) (hk:rs[k]?=some r):∃ loc cp,rs2[k]?=some ⟨r.nd,loc,cp⟩:=by
 have h1:(nds rs2)[k]?=(nds rs)[k]?:=by rw [h]
 simp only [nds,List.getElem?_map,hk,Option.map_some] at h1
 cases h2:rs2[k]? with
 | none=>rw [h2] at h1;cases h1
 | some s =>
  rw [h2] at h1;simp only [Option.map_some,Option.some.injEq] at h1;exact ⟨s.loc,s.cap,by rw [<-h1]⟩
theorem NB.lts (h:NB w B v rs):∀ r ∈ rs,∀ q,r.loc=some q->q.block<w.heap.size:=fun r hr q e=>by
 have:=(h.rows r hr).lt q.block (by rw [e];rfl);exact this.2
theorem NB.setAway (h:NB w B v rs) (g i:Nat) (x:Value) (hv:v.ownBlock ≠ some g) (hr:∀ r ∈ rs,∀ q,r.loc=some q->q.block ≠ g):NB (w.setCell ⟨g,i,none⟩ x) B v rs:=by
 refine ⟨h.own.kept (qam w g i x) (.inr hv),fun r hr'=>(h.rows r hr').kept (qam w g i x) (.inr fun e=>?_),h.apart⟩
 cases hl:r.loc with
 | none=>rw [hl] at e;cases e
 | some q =>
  rw [hl] at e;simp [Value.ownBlock] at e;exact hr r hr' q hl e
theorem NB.beyond {B C:Nat} (h:NB w B v rs) (hg:w.grownBy w' q) (hq:∀ k,q=some k->C<=k) (hv:∀ k,v.ownBlock=some k->k<C) (hr:∀ r ∈ rs,∀ a,r.loc=some a->a.block<C):NB w' B v rs:=by
 refine ⟨h.own.kept hg ?_,fun r hr'=>(h.rows r hr').kept hg ?_,h.apart⟩
 ·cases e:v.ownBlock with
  | none=>exact .inl rfl
  | some k=>exact .inr fun e2=>by have:=hq k e2.symm;have:=hv k e;omega
 ·cases e:(Value.slice r.loc r.nd.pieces.length r.cap).ownBlock with
  | none=>exact .inl rfl
  | some k =>
   refine .inr fun e2=>?_;have h1:=hq k e2.symm
   cases hl:r.loc with
   | none=>rw [hl] at e;cases e
   | some a =>
    rw [hl] at e;simp [Value.ownBlock] at e;have:=hr r hr' a hl;omega
def qja (R:TM × Int) (w:World) (e:Ending) (w':World):Prop:=∃ v,e = .returned (.tuple #[v,.int .i64 R.2])/\TAns w' v R.1 w.heap.size w'.heap.size/\Below w.heap.size w w'
end
section
variable {p:Int} {ns:List NM} {f i j k:Nat} {T:TM}
theorem atI_mem {id:Int} (h:∃ n ∈ ns,n.id=id):∃ k,∃ hk:k<ns.length,atI ns id=(k:Int)/\ns[k].id=id:=by
 rcases qgc ns id with ⟨-,h2⟩ | ⟨i,hi,h1,h2⟩
 ·obtain ⟨n,hn,e⟩:=h
  exact absurd e (h2 n hn)
 ·exact ⟨i,hi,h1,h2⟩
theorem qpl (ns:List NM) (c:Int) (nm:ByteArray):∀ (ms:List NM) (z:Int),ms.foldl (kidS c nm) z=z\/∃ n ∈ ms,n.parent=c/\n.name=nm/\n.id=ms.foldl (kidS c nm) z
 | [],z=>.inl rfl
 | m::ms,z=>by
  rw [List.foldl_cons];rcases qpl ns c nm ms (kidS c nm z m) with h | ⟨n,hn,h1,h2,h3⟩
  ·rw [h]
   unfold kidS;split
   ·rename_i hc
    exact .inr ⟨m,by simp,hc.1,hc.2.1,rfl⟩
   ·exact .inl rfl
  ·exact .inr ⟨n,by simp [hn],h1,h2,h3⟩
theorem qpv:∀ (L:List ByteArray) (c:Int),(∃ n ∈ ns,n.id=c)->findF ns L c=0\/∃ n ∈ ns,n.id=findF ns L c
 | [],c,h=>.inr h
 | p::ps,c,h=>by
  unfold findF;split
  ·exact .inl rfl
  ·rename_i h0
   refine qpv ps _ ?_;rcases qpl ns c p ns 0 with e | ⟨n,hn,-,-,e⟩
   ·exact absurd e h0
   ·exact ⟨n,hn,e⟩
theorem qlg {p:ByteArray} (h:findX T p ≠ 0):∃ k,∃ hk:k<T.nodes.length,atI T.nodes (findX T p)=(k:Int)/\T.nodes[k].id=findX T p:=by
 apply atI_mem;unfold findX at h ⊢;split at h
 ·rename_i hc
  rw [if_pos hc]
  have h1:∃ n ∈ T.nodes,n.id=1:=by
   rcases qgc T.nodes 1 with ⟨e,-⟩ | ⟨i,hi,-,e⟩
   ·have:=hc.2;omega
   ·exact ⟨_,List.getElem_mem hi,e⟩
  rcases qpv (splitB p).1 1 h1 with e | e
  ·exact absurd e h
  ·exact e
 ·exact absurd rfl h
theorem qjp (h:qae T=true) (i:Nat) (hi:i<T.nodes.length):nodeOk T i=true:=by
 unfold qae at h;simp only [Bool.and_eq_true,List.all_eq_true,List.mem_range] at h;exact h.2 i hi
theorem qbi (h:qae T=true):1<=T.nodes.length/\T.nodes.length<=14/\T.next<=100000:=by
 unfold qae at h;simp only [Bool.and_eq_true,decide_eq_true_eq] at h;exact ⟨h.1.1.1,h.1.1.2,h.1.2⟩
theorem getD_at (hi:i<ns.length):ns.getD i default=ns[i]:=by simp [List.getD,hi]
theorem qbr (h:qae T=true) (i:Nat) (hi:i<T.nodes.length):(T.nodes[i]).name.size<=8/\(T.nodes[i]).pieces.length<=40/\(T.nodes[i]).id<T.next/\0<=(T.nodes[i]).len/\(T.nodes[i]).len<=1000/\(T.nodes[i].dir=true->dirOk T.nodes[i]=true)/\(T.nodes[i].dir=false->fileOk T.nodes[i]=true):=by
 have hn:=qjp h i hi;unfold nodeOk at hn;rw [getD_at hi] at hn;simp only [Bool.and_eq_true,decide_eq_true_eq,Bool.or_eq_true] at hn;obtain ⟨⟨⟨h1,h2⟩,h3⟩,h4⟩:=hn;have hd:(T.nodes[i].dir=true->dirOk T.nodes[i]=true):=fun e=>by rw [if_pos e] at h3;exact h3
 have hf:(T.nodes[i].dir=false->fileOk T.nodes[i]=true):=fun e=>by rw [if_neg (by rw [e];simp)] at h3;exact h3
 refine ⟨?_,?_,h1,?_,?_,hd,hf⟩
 ·rcases h4 with e | e
  ·rw [if_pos e] at h2
   unfold qbu at h2;simp only [Bool.and_eq_true,decide_eq_true_eq] at h2;rw [h2.1.1.2]
   decide
  ·have:=e.1.1.1.1
   unfold nameB at this;exact (qkq this).2
 ·cases hx:T.nodes[i].dir with
  | true =>
   have:=hd hx;unfold dirOk at this;simp only [Bool.and_eq_true,decide_eq_true_eq] at this;omega
  | false =>
   have:=hf hx;unfold fileOk at this;simp only [Bool.and_eq_true,decide_eq_true_eq] at this;omega
 ·cases hx:T.nodes[i].dir with
  | true =>
   have:=hd hx;unfold dirOk at this;simp only [Bool.and_eq_true,decide_eq_true_eq,beq_iff_eq] at this;omega
  | false=>exact (qiz (hf hx)).1
 ·cases hx:T.nodes[i].dir with
  | true =>
   have:=hd hx;unfold dirOk at this;simp only [Bool.and_eq_true,decide_eq_true_eq,beq_iff_eq] at this;omega
  | false=>exact (qiz (hf hx)).2
theorem qrf (ns:List NM) (c:Nat) (h:∀ n ∈ ns,n.name.size+n.pieces.length<=c):nsum ns<=c*ns.length:=by
 induction ns with
 | nil=>simp [nsum]
 | cons n ns ih =>
  have h1:=ih fun x hx=>h x (by simp [hx]);have h2:=h n (by simp);simp only [nsum,List.length_cons,Nat.mul_add];omega
theorem nsum_app (a b:List NM):nsum (a++b)=nsum a+nsum b:=by
 induction a with
 | nil=>simp [nsum]
 | cons n a ih=>simp only [List.cons_append,nsum,ih];omega
theorem qpw (ns:List NM) (k:Nat) (x:NM):nsum (ns.set k x)<=nsum ns+(x.name.size+x.pieces.length):=by
 induction ns generalizing k with
 | nil=>simp [nsum]
 | cons n ns ih =>
  cases k with
  | zero=>simp only [List.set_cons_zero,nsum];omega
  | succ k=>have:=ih k;simp only [List.set_cons_succ,nsum];omega
theorem qhi (h:qae T=true):nsum T.nodes<=672:=by
 have h1:=qrf T.nodes 48 fun n hn=>by
  obtain ⟨i,hi,rfl⟩:=List.mem_iff_getElem.1 hn;have:=qbr h i hi;omega
 have:=qbi h;omega
theorem qgg (h:qae T=true):NFit T:=by
 have h1:=qhi h;have h2:=qbi h;unfold NFit;omega
theorem qpm (h:qae T=true) (p:ByteArray) (x:NM) (hx:x.pieces=[]):NFit (addT T p x):=by
 have h1:=qhi h;have h2:=qbi h;have h3:=(qbf p).2;unfold NFit addT;dsimp only;rw [nsum_app,List.length_append];simp only [nsum,List.length_singleton,hx,List.length_nil];omega
theorem qev (hk:k<T.nodes.length):ndAt T k=T.nodes[k]:=getD_at hk
theorem qpx (h:qae T=true) (p:ByteArray) (id:Int) (k:Nat) (hk:k<T.nodes.length) (hid:atI T.nodes id=(k:Int)):NFit (moveT T p id):=by
 have h1:=qhi h;have h2:=qbi h;have h3:=(qbf p).2;have e:plc T id=k:=by unfold plc;rw [hid];rfl
 have hp:=qbr h k hk;unfold NFit moveT setN;dsimp only;rw [e,List.length_set,qev hk];have h4:=qpw T.nodes k { T.nodes[k] with parent:=upX T p,name:=(qab p).2.1 };dsimp only at h4;omega
theorem qjh (h:qae T=true):1<T.next:=by
 have h2:=qbi h;have hn:=qjp h 0 (by omega);unfold nodeOk at hn;rw [getD_at (by omega)] at hn;simp only [Bool.and_eq_true,decide_eq_true_eq,if_true] at hn;have h3:=hn.1.1.2;unfold qbu at h3;simp only [Bool.and_eq_true,beq_iff_eq] at h3;have h4:=hn.1.1.1;rw [h3.1.1.1.1] at h4;exact h4
def clm (ns:List NM):Nat->Nat->Bool
 | 0,j=>(ns.getD j default).id==1
 | f+1,j=>match fid ns (ns.getD j default).parent with
  | none=>(ns.getD j default).id==1
  | some k=>clm ns f k
theorem qmu (h:fid ns (ns.getD j default).parent=none):clm ns f j=((ns.getD j default).id==1):=by
 cases f with
 | zero=>rfl
 | succ f =>
  conv=>lhs;unfold clm
  rw [h]
theorem qmv (h:fid ns (ns.getD j default).parent=some k):clm ns (f+1) j=clm ns f k:=by
 conv=>lhs;unfold clm
 rw [h]
theorem Asc.id_one (h:Asc ns) {j:Nat} (hj:j<ns.length):((ns.getD j default).id==1)=decide (j=0):=by
 rw [getD_in hj]
 by_cases e:j=0
 ·subst e
  have:=h.2.2.1;rw [getD_in hj] at this;simp [this]
 ·have:=h.lt j hj 0 (by omega)
  rw [h.2.2.1] at this;have h2:¬ ns[j].id=1:=by omega
  simp [h2,e]
theorem qrv (h:Asc ns):∀ f j,j<ns.length->clm ns f j=true->∃ d,d<=f/\Ups ns j d:=by
 intro f
 induction f with
 | zero =>
  intro j hj hc;unfold clm at hc;rw [h.id_one hj] at hc;obtain rfl:=of_decide_eq_true hc;exact ⟨0,zL,.root⟩
 | succ f ih =>
  intro j hj hc
  cases hp:fid ns (ns.getD j default).parent with
  | none =>
   rw [qmu hp,h.id_one hj] at hc;obtain rfl:=of_decide_eq_true hc;exact ⟨0,Nat.zero_le _,.root⟩
  | some k =>
   rw [qmv hp] at hc;obtain ⟨d,hd,hu⟩:=ih k (qck hp).1 hc;refine ⟨d+1,by omega,.step hj (fun e=>?_) hp hu⟩;subst e;rw [h.2.2.2,h.zero] at hp;cases hp
theorem ups_clm (h:Asc ns) {j d:Nat} (hu:Ups ns j d):∀ f,d<=f->clm ns f j=true:=by
 induction hu with
 | root =>
  intro f _;rw [qmu (by rw [h.2.2.2];exact h.zero),h.id_one h.2.1]
  rfl
 | step hj h0 hp _ ih =>
  intro f hf
  cases f with
  | zero=>omega
  | succ f=>rw [qmv hp];exact ih f (by omega)
theorem clm_climbs (h:Asc ns) {j:Nat} (hj:j<ns.length) (h0:j ≠ 0):clm ns 4 j=climbs ns 4 (ns.getD j default).id:=by
 have hf:=h.fid hj;rw [<-getD_in hj] at hf
 cases hc:climbs ns 4 (ns.getD j default).id with
 | true =>
  obtain ⟨d,hd,hu⟩:=climbs_ups h 4 _ j hc hf h0;exact ups_clm h hu 4 hd
 | false =>
  refine Bool.eq_false_iff.2 fun hm=>?_;obtain ⟨d,hd,hu⟩:=qrv h 4 j hj hm;rw [ups_climbs h 4 j d hu h0 hd] at hc;cases hc
theorem belowF_no (h:Asc ns) {top:Int} (hn:fid ns top=none) (h0:top ≠ 0) {i d:Nat} (hu:Ups ns i d):∀ f,qal ns f (ns.getD i default).id top=false:=by
 have hne:∀ j,j<ns.length->(ns.getD j default).id ≠ top:=fun j hj e=>fid_none hn _ (by rw [getD_in hj] at e;exact List.getElem_mem hj) (by rw [getD_in hj] at e;exact e)
 induction hu with
 | root =>
  intro f
  cases f with
  | zero=>rfl
  | succ f =>
   rw [qej (i:=0) (hne 0 h.2.1) (by rw [h.2.2.1];exact h.one),h.2.2.2]
   cases f with
   | zero=>rfl
   | succ f=>exact qfk (fun e=>h0 e.symm) h.zero
 | @step i k d hi _ hk _ ih =>
  intro f
  cases f with
  | zero=>rfl
  | succ f =>
   have hf:=h.fid hi;rw [<-getD_in hi] at hf;rw [qej (hne i hi) hf];obtain ⟨hkl,ek⟩:=qck hk;rw [<-ek,<-getD_in hkl];exact ih f
def blw (ns:List NM) (i:Nat) (top:Int):Bool:=decide (top ≠ 0)&&qal ns 15 (ns.getD i default).id top
def qqg (ns:List NM) (i:Nat):Bool:=match fnm ns (ns.getD i default).parent (ns.getD i default).name with
 | some k=>(ns.getD k default).id==(ns.getD i default).id
 | none=>false
theorem qkj (h:fnm ns (ns.getD i default).parent (ns.getD i default).name=some k):qqg ns i=((ns.getD k default).id==(ns.getD i default).id):=by
 unfold qqg;rw [h]
def dirB (ns:List NM) (p:Int):Bool:=match fid ns p with
 | some k=>(ns.getD k default).dir
 | none=>false
theorem qod (h:fid ns p=some k):dirB ns p=(ns.getD k default).dir:=by
 unfold dirB;rw [h]
theorem qoe (h:fid ns p=none):dirB ns p=false:=by
 unfold dirB;rw [h]
def qfv (ns:List NM) (i:Nat):Bool:=nameB (ns.getD i default).name&&qqg ns i&&dirB ns (ns.getD i default).parent&&clm ns 4 i
def Tall (ns:List NM):Prop:=Asc ns/\∀ i,i<ns.length->∃ d,d<=4/\Ups ns i d
end
section
open Go.Maps
variable {ns:List NM} {w:World}
structure Nd (w:World) (ns:List NM) (G:Nat->Nat):Prop where
 cells:∀ i (hi:i<ns.length),w.cell? ⟨G i,0,none⟩=some (.int .i64 ns[i].id)/\w.cell? ⟨G i,1,none⟩=some (.int .i64 ns[i].parent)/\w.cell? ⟨G i,2,none⟩=some (.string ns[i].name)/\w.cell? ⟨G i,3,none⟩=some (.bool ns[i].dir)/\w.cell? ⟨G i,4,none⟩=some (.int .i64 ns[i].schema)/\w.cell? ⟨G i,5,none⟩=some (.int .i64 ns[i].quota)/\G i<w.heap.size
 above:∀ i (hi:i<ns.length),fid ns ns[i].id=some i->w.cell? ⟨G i,9,none⟩=some (ptrV ((fid ns ns[i].parent).map G))
theorem Lk.nd {B b1 b2:Nat} {rs:List NR} {G:Nat->Nat} {C:Int->Nat} (h:Lk w B b1 b2 rs G C (Ab (nds rs) fun _=>false)):Nd w (nds rs) G:=by
 refine ⟨fun i hi=>?_,fun i hi hf=>?_⟩
 ·have hi':i<rs.length:=by rwa [qaf] at hi
  have hc:=(h.cells i hi').1;have e:(nds rs)[i]=rs[i].nd:=by simp [nds]
  rw [e];exact ⟨(hc.2 0 _ rfl).1,(hc.2 1 _ rfl).1,(hc.2 2 _ rfl).1,(hc.2 3 _ rfl).1,(hc.2 4 _ rfl).1,(hc.2 5 _ rfl).1,hc.1⟩
 ·have hi':i<rs.length:=by rwa [qaf] at hi
  have hc:=((h.cells i hi').1.2 9 _ rfl).1
  have:Ab (nds rs) (fun _=>false) i=fid (nds rs) (nds rs)[i].parent:=by
   unfold Ab;rw [getD_in hi,if_pos ⟨hf,rfl⟩]
  rw [this] at hc;exact hc
theorem Nd.below {w w':World} {G:Nat->Nat} (h:Nd w ns G) (hb:Below w.heap.size w w'):Nd w' ns G:=by
 refine ⟨fun i hi=>?_,fun i hi hf=>?_⟩
 ·obtain ⟨c0,c1,c2,c3,c4,c5,hl⟩:=h.cells i hi
  exact ⟨(hb.cell hl).trans c0,(hb.cell hl).trans c1,(hb.cell hl).trans c2,(hb.cell hl).trans c3,(hb.cell hl).trans c4,(hb.cell hl).trans c5,Nat.lt_of_lt_of_le hl hb.size⟩
 ·exact (hb.cell (h.cells i hi).2.2.2.2.2.2).trans (h.above i hi hf)
theorem qcf (g:Nat):ptrV (some g) = .pointer (some ⟨g,0,none⟩):=rfl
theorem qcg:ptrV none = .pointer none:=rfl
theorem reaches_any {G:Nat->Nat} (h:Nd w ns G) (ha:Asc ns) {i:Nat} (hi:i<ns.length) :
  Calls Tryz.prog 154 #[.pointer (some ⟨G i,0,none⟩)] w fun e w'=>e = .returned (.bool (clm ns 4 i))/\w'=w:=by
 have HN:=zS h;have HA:=zS ha;clear h ha;obtain ⟨R,hR⟩:∃ R,R=clm ns 4 i:=⟨_,rfl⟩;rw [<-hR];have HR:=zS hR;clear hR;go_enter Tryz.func154,Tryz.ntmps154;go_wp2_with fail;go_loopw [0,3] (fun p c wr=>∃ (k j:Nat),p = .pointer (some ⟨G j,0,none⟩)/\c = .int .i64 k/\k<=4/\j<ns.length/\Sh (clm ns (4 - k) j=R)/\wr=w) (fun _ c _=>4 - (intOf c).toNat)
 case atStart=>exact ⟨0,i,rfl,rfl,by omega,hi,⟨HR.1.symm⟩,rfl⟩
 case round =>
  obtain ⟨k,j,rfl,rfl,hk,hj,hc,rfl⟩:=hrel;obtain ⟨c0,_,_,_,_,_,hl⟩:=HN.1.cells j hj;have c9:=HN.1.above j hj (HA.1.fid hj);have hid:=HA.1.id_one hj;have hge:=getD_in hj;obtain ⟨x,hx⟩:∃ x,x=ns[j]:=⟨_,rfl⟩;rw [<-hx] at c0 c9 hge;rw [hge] at hid;have HGE:=zS hge;have HID:=zS hid;clear hx hge hid;obtain ⟨o,ho⟩:∃ o,o=fid ns x.parent:=⟨_,rfl⟩;rw [<-ho] at c9;have HO:=zS ho;clear ho
  by_cases h4:k<4
  ·have h4':(k:Int)<4:=by omega
   cases o with
   | none =>
    simp only [Option.map_none,qcg] at c9;go_wp2_with fail;go_ret;refine ⟨?_,rfl⟩;have:=hc.1;rw [qmu (by rw [HGE.1,<-HO.1]),HGE.1] at this;rw [<-this]
    rfl
   | some m =>
    simp only [Option.map_some,qcf] at c9;go_wp2_with fail;go_roundw
    case rel =>
     have h5:=hc.1;have e:4 - k=(4 - (k+1))+1:=by omega
     rw [e,qmv (k:=m) (by rw [HGE.1,<-HO.1])] at h5;exact ⟨k+1,m,rfl,by go_num,by omega,(qck HO.1.symm).1,⟨h5⟩,trivial⟩
    case measure=>simp [intOf];omega
  ·have h4':¬ (k:Int)<4:=by omega
   go_wp2_with fail;go_ret;refine ⟨?_,rfl⟩;have:=hc.1;obtain rfl:k=4:=by omega
   have e4:clm ns (4 - 4) j=((ns.getD j default).id==1):=rfl;rw [e4,HGE.1] at this;rw [<-this]
   rfl
theorem isBelow_any {G:Nat->Nat} (h:Nd w ns G) (ht:Tall ns) {i:Nat} (hi:i<ns.length) (top:Int) :
  Calls Tryz.prog 186 #[.pointer (some ⟨G i,0,none⟩),.int .i64 top] w fun e w'=>e = .returned (.bool (blw ns i top))/\w'=w:=by
 have HN:=zS h;have HA:=zS ht.1;obtain ⟨d0,hd0,hu0⟩:=ht.2 i hi;have HU:=zS hu0;obtain ⟨R,hR⟩:∃ R,R=blw ns i top:=⟨_,rfl⟩;rw [<-hR];have HR:=zS hR;clear hR h ht hu0;go_enter Tryz.func186,Tryz.ntmps186;go_wp2_with fail;go_loopg [0] (d0+1) (fun m p wr=>(Sh (p = .pointer none/\R=false)\/Sh (∃ (j d r:Nat),p = .pointer (some ⟨G j,0,none⟩)/\m=d+1/\j<ns.length/\Ups ns j d/\(top ≠ 0->qal ns (d+2+r) (ns.getD j default).id top=R)/\(top=0->R=false)))/\wr=w)
 case atStart =>
  refine ⟨.inr ⟨i,d0,13 - d0,rfl,rfl,hi,HU.1,fun h0=>?_,fun h0=>?_⟩,rfl⟩
  ·rw [HR.1]
   unfold blw;rw [show d0+2+(13 - d0)=15 by omega];simp [h0]
  ·rw [HR.1]
   unfold blw;simp [h0]
 case round =>
  obtain ⟨hrel,rfl⟩:=hrel;rcases hrel with ⟨rfl,rfl⟩ | ⟨j,d,r,rfl,rfl,hj,hu,h1,h2⟩
  ·go_wp2_with fail
   go_ret;exact ⟨rfl,rfl⟩
  ·obtain ⟨c0,_,_,_,_,_,hl⟩:=HN.1.cells j hj
   have hf:=HA.1.fid hj;have c9:=HN.1.above j hj hf;have hge:=getD_in hj;have hpos:=HA.1.pos hj;obtain ⟨x,hx⟩:∃ x,x=ns[j]:=⟨_,rfl⟩;rw [<-hx] at c0 c9 hge hpos hf;rw [hge] at h1;have HH:=zS (And.intro h1 (And.intro h2 (And.intro hu (And.intro hge hf))));obtain ⟨o,ho⟩:∃ o,o=fid ns x.parent:=⟨_,rfl⟩;rw [<-ho] at c9;have HO:=zS ho;clear ho h1 h2 hu hge hf hx
   by_cases ht:x.id=top
   ·have HT:=zS hpos
    clear hpos;subst ht;go_wp2_with fail;go_ret;refine ⟨?_,rfl⟩;have h1:=HH.1.1 (by have:=HT.1;omega);rw [show d+2+r=(d+1+r)+1 by omega,qlc rfl] at h1;rw [<-h1]
    rfl
   ·cases o with
    | none =>
     simp only [Option.map_none,qcg] at c9;go_wp2_with fail;go_roundg 0
     case measure=>omega
     case rel =>
      obtain ⟨h1,h2,hu,hge,hf⟩:=HH.1;refine ⟨.inl ⟨⟨rfl,?_⟩⟩,rfl⟩
      by_cases h0:top=0
      ·exact h2 h0
      ·have h3:=h1 h0
       rw [show d+2+r=((d+r)+1)+1 by omega,qej ht hf,hge] at h3;rw [<-h3]
       cases hu with
       | root =>
        have e0:=HA.1.2.2.2;rw [hge] at e0;rw [e0];exact qfk (fun e=>h0 e.symm) HA.1.zero
       | step _ _ hk _ =>
        rw [hge,<-HO.1] at hk;cases hk
    | some k =>
     simp only [Option.map_some,qcf] at c9;go_wp2_with fail;go_roundg d
     case measure=>omega
     case rel =>
      obtain ⟨h1,h2,hu,hge,hf⟩:=HH.1;refine ⟨.inr ⟨?_⟩,rfl⟩
      cases hu with
      | root =>
       have e0:=HA.1.2.2.2;have h4:=HO.1;rw [hge] at e0;rw [e0,HA.1.zero] at h4;cases h4
      | @step _ k' d' _ _ hk hu' =>
       rw [hge,<-HO.1] at hk;cases hk;obtain ⟨hkl,ek⟩:=qck HO.1.symm;refine ⟨k,d',r,rfl,rfl,hkl,hu',fun h0=>?_,h2⟩;have h3:=h1 h0;rw [show d'+1+2+r=(d'+2+r)+1 by omega,qej ht hf,hge,<-ek,<-getD_in hkl] at h3;exact h3
end
section
open Go.Maps BigFrame
theorem placeOk_any {w:World} {B b1 b2:Nat} {rs:List NR} {G:Nat->Nat} {C:Int->Nat} (h:Lk w B b1 b2 rs G C (Ab (nds rs) fun _=>false)) (ha:Asc (nds rs)) (hI:NInt (nds rs)) (hS:∀ n ∈ nds rs,n.name.size<=1048576) {i:Nat} (hi:i<rs.length) :
  Calls Tryz.prog 112 #[.agg #[.map (some b1),.map (some b2)],nv rs[i]] w fun e w'=>e = .returned (.bool (qfv (nds rs) i))/\Below w.heap.size w w':=by
 have hi':i<(nds rs).length:=by rw [qaf];exact hi
 have he:(nds rs).getD i default=rs[i].nd:=by rw [getD_in hi'];simp [nds]
 have hmem:rs[i].nd ∈ nds rs:=List.mem_map.2 ⟨_,List.getElem_mem hi,rfl⟩;have f1:=(hI _ hmem).1;have f2:=(hI _ hmem).2;have f3:=hS _ hmem;have hfi:=ha.fid hi';rw [<-getD_in hi',he] at hfi;obtain ⟨r,hr⟩:∃ r,r=rs[i]:=⟨_,rfl⟩;rw [<-hr] at he f1 f2 f3 hfi ⊢;obtain ⟨R,hR⟩:∃ R,R=qfv (nds rs) i:=⟨_,rfl⟩;rw [<-hR];have HR:=zS hR;have HE:=zS he;have HL:=zS h;have HA:=zS ha;have HF:=zS hfi;clear hR he h ha hI hS hmem hr hfi;go_enter Tryz.func112,Tryz.ntmps112;go_upto_region 1 with fail;refine qaa (fun W=>Below w.heap.size w W/\WCells W w.heap.size [.map (some b1),.map (some b2)]/\WCells W (w.heap.size+1) (qaj r)) ?_ ?_
 ·refine ⟨(zB.alloc zL _).alloc (by simp) _,(qac w #[.map (some b1),.map (some b2)] 169).alloc _,?_⟩
  have:=qac (w.alloc (.cells #[.map (some b1),.map (some b2)] 169)) #[.int .i64 r.nd.id,.int .i64 r.nd.parent,.string r.nd.name,.bool r.nd.dir,.int .i64 r.nd.schema,.int .i64 r.nd.quota,.int .i64 r.nd.len,.slice r.loc r.nd.pieces.length r.cap,.int .i64 r.nd.writer] 90
  simpa [qaj] using this
 intro W hW;obtain ⟨hb,hx,hn⟩:=hW;have HB:=zS hb;have b0:=(hx.2 0 _ rfl).1;have b1':=(hx.2 1 _ rfl).1;obtain ⟨n0,n1,n2⟩:=bwb3 hn;have HX:=zS hn;have hL:=HL.1.below hb;have HLW:=zS hL;have hpar:Par (nds rs) r.nd.parent:=⟨_,List.getElem_mem hi',by rw [<-getD_in hi',HE.1]⟩
 obtain ⟨k,hk⟩:∃ k,fnm (nds rs) r.nd.parent r.nd.name=some k:=by
  cases hf:fnm (nds rs) r.nd.parent r.nd.name with
  | some k=>exact ⟨k,rfl⟩
  | none=>exact absurd (by rw [<-getD_in hi',HE.1]) (qqf hf _ (List.getElem_mem hi') (by rw [<-getD_in hi',HE.1]))
 obtain ⟨D1,o1,t1⟩:=hL.m1;have k1:=qdu keyI Tryz.underlying166 qhn o1 (qcs f1) (t1 r.nd.id);rw [HF.1] at k1;obtain ⟨D2,o2,t2⟩:=hL.m2;have k2:=qhr keyI Tryz.underlying167 qnx o2 (qcs f2) ((t2 r.nd.parent).1 hpar);obtain ⟨d1,d2,d3,D3,o3,t3⟩:=hL.m3 r.nd.parent hpar;have k3:=qdu keyS Tryz.underlying195 qhn o3 (qkf (by unfold maxLen;omega)) (t3 r.nd.name);rw [hk] at k3;simp only [Option.map_some,qcf] at k1 k3;have em:∀ g,mapV (some g) = .map (some g):=fun _=>rfl;rw [em] at k2;have HK:=zS hk;have HP:=zS hpar;clear hb hx hn hL hpar hk o1 t1 o2 t2 o3 t3 em d1 d2 d3;go_quiet (fail)
 go_upto_region 2 with fail;refine qaa (fun W2=>Below W.heap.size W W2) (Below.mono (B:=(W.drewN nq).heap.size) ⟨rfl,rfl,rfl,zL,fun _ _=>rfl⟩ zL) ?_;intro V hV;have HV:=zS hV;have hnd:=(HLW.1.below hV).nd;have HND:=zS hnd;have hn:=HX.1.grow hV;have hln:=hn.1;have hkl:=(qlt HK.1).1;have ck0:=(hnd.cells k hkl).1;have lk:=(hnd.cells k hkl).2.2.2.2.2.2;have ci9:=hnd.above i hi' (HA.1.fid hi');have li:=(hnd.cells i hi').2.2.2.2.2.2;have hei:(nds rs)[i]=r.nd:=by rw [<-getD_in hi',HE.1]
 rw [hei] at ci9;have g0:∀ X:Grow V,X.val.cell? ⟨w.heap.size+1,0,none⟩=some (.int .i64 r.nd.id):=fun X=>X.cell (hn.2 0 _ rfl).1 hln;have g2:∀ X:Grow V,X.val.cell? ⟨w.heap.size+1,2,none⟩=some (.string r.nd.name):=fun X=>X.cell (hn.2 2 _ rfl).1 hln;have gk:∀ X:Grow V,X.val.cell? ⟨G k,0,none⟩=some (.int .i64 (nds rs)[k].id):=fun X=>X.cell ck0 lk;have gi:∀ X:Grow V,X.val.cell? ⟨G i,9,none⟩=some (ptrV ((fid (nds rs) r.nd.parent).map G)):=fun X=>X.cell ci9 li;have hnm:=fun X=>qgk (w:=V) (fun W' (_:Below V.heap.size V W')=>qlv r.nd.name W' f3) X;have hre:=fun X=>calls_same (w:=V) (fun W' (hb':Below V.heap.size V W')=>reaches_any (HND.1.below hb') HA.1 hi') X
 have hRR:R=(nameB r.nd.name&&((nds rs)[k].id==r.nd.id)&&dirB (nds rs) r.nd.parent&&clm (nds rs) 4 i):=by
  rw [HR.1];unfold qfv;rw [qkj (k:=k) (by rw [HE.1];exact HK.1),HE.1,getD_in hkl]
 have HRR:=zS hRR;have HNM:=zS hnm;have HRE:=zS hre;obtain ⟨xid,hxid⟩:∃ x,x=(nds rs)[k].id:=⟨_,rfl⟩;rw [<-hxid] at gk HRR;obtain ⟨o,ho⟩:∃ o,o=fid (nds rs) r.nd.parent:=⟨_,rfl⟩;rw [<-ho] at gi;have HO:=zS ho;have HEND:Sh (∀ X:Grow V,Below w.heap.size w X.val):=⟨fun X=>HB.1.trans ((HV.1.trans (X.bel.mono HV.1.size)).mono HB.1.size)⟩
 have HDIR:Sh (∀ m,o=some m->∀ X:Grow V,X.val.cell? ⟨G m,3,none⟩=some (.bool ((nds rs).getD m default).dir)):=⟨fun m hm X=>by
  rw [hm] at ho;obtain ⟨hml,_⟩:=qck ho.symm;obtain ⟨_,_,_,cm3,_,_,lm⟩:=hnd.cells m hml;rw [getD_in hml]
  exact X.cell cm3 lm⟩
 generalize clm (nds rs) 4 i=cl at HRR HRE;clear hnm hre hRR hxid ho hnd hn hln ck0 ci9 hei hkl li lk k1 k2 k3 b0 b1' n0 n1 n2 hV
 cases hN:nameB r.nd.name with
 | false =>
  rw [hN] at HNM HRR;refine qah (by kernel_rfl) (by kernel_rfl) ?_
  repeat (go_big_quiet_step (first | (go_at_call 153;exact HNM.1 _) | (go_at_call 154;exact HRE.1 _)))
  refine wpQuiet_nil ?_;rintro _ ⟨X,rfl⟩;go_wp2_with fail;go_ret;refine ⟨?_,HEND.1 X⟩;rw [HRR.1]
  rfl
 | true =>
  rw [hN] at HNM HRR
  by_cases hx:xid=r.nd.id
  ·cases o with
   | none =>
    simp only [Option.map_none,qcg] at gi;have he2:(xid==r.nd.id)=true:=by simp [hx]
    rw [qoe HO.1.symm] at HRR;refine qah (by kernel_rfl) (by kernel_rfl) ?_
    repeat (go_big_quiet_step (first | (go_at_call 153;exact HNM.1 _) | (go_at_call 154;exact HRE.1 _)))
    refine wpQuiet_nil ?_;rintro _ ⟨X,rfl⟩;go_wp2_with fail;go_ret;refine ⟨?_,HEND.1 X⟩;rw [HRR.1];simp
   | some m =>
    simp only [Option.map_some,qcf] at gi;have gd:=HDIR.1 m rfl;rw [qod HO.1.symm] at HRR;have he2:(xid==r.nd.id)=true:=by simp [hx]
    cases hd:((nds rs).getD m default).dir with
    | false =>
     rw [hd] at gd;refine qah (by kernel_rfl) (by kernel_rfl) ?_
     repeat (go_big_quiet_step (first | (go_at_call 153;exact HNM.1 _) | (go_at_call 154;exact HRE.1 _)))
     refine wpQuiet_nil ?_;rintro _ ⟨X,rfl⟩;go_wp2_with fail;go_ret;refine ⟨?_,HEND.1 X⟩;rw [HRR.1];rw [hd];simp
    | true =>
     rw [hd] at gd;refine qah (by kernel_rfl) (by kernel_rfl) ?_
     repeat (go_big_quiet_step (first | (go_at_call 153;exact HNM.1 _) | (go_at_call 154;exact HRE.1 _)))
     refine wpQuiet_nil ?_;rintro _ ⟨X,rfl⟩;go_wp2_with fail;go_ret;refine ⟨?_,HEND.1 X⟩;rw [HRR.1];rw [hd,he2];simp
  ·have he2:(xid==r.nd.id)=false:=by simp [hx]
   refine qah (by kernel_rfl) (by kernel_rfl) ?_
   repeat (go_big_quiet_step (first | (go_at_call 153;exact HNM.1 _) | (go_at_call 154;exact HRE.1 _)))
   refine wpQuiet_nil ?_;rintro _ ⟨X,rfl⟩;go_wp2_with fail;go_ret;refine ⟨?_,HEND.1 X⟩;rw [HRR.1];simp [hx]
end
section
open BigFrame
theorem sch_in (s:Int):schOk s=inI s 1 3:=by
 cases h:schOk s with
 | true =>
  obtain rfl | rfl | rfl:=qhy h <;> rfl
 | false =>
  obtain ⟨h1,h2,h3⟩:=qqq h
  symm
  refine Bool.eq_false_iff.2 fun hc=>?_;have:=inI_iff.1 hc;omega
theorem qdi (s:Int) (w:World):Calls Tryz.prog 149 #[.int .i64 s] w fun e w'=>e = .returned (.bool (inI s 1 3))/\w'=w:=by
 have HS:=zS (fun W=>qsc s W);unfold qhf at HS;rw [sch_in] at HS;generalize inI s 1 3=ok at *;generalize schM s=m at *;generalize schK s=k at *;go_enter Tryz.func149,Tryz.ntmps149;go_wp2_with fail;refine (HS.1 _).mono ?_;rintro e w1 ⟨rfl,rfl⟩;go_wp2_with fail;go_ret;exact ⟨rfl,rfl⟩
end
section
theorem treeOk_first {T:TM} (h:qae T=true):0<T.nodes.length/\(T.nodes.getD 0 default).id=1/\atI T.nodes 1=0:=by
 have h0:0<T.nodes.length:=by
  unfold qae at h;simp only [Bool.and_eq_true,decide_eq_true_eq] at h;omega
 have h1:=qdc h h0;unfold nodeOk at h1;simp only [Bool.and_eq_true] at h1;have h2:=h1.1.1.2;rw [if_pos trivial] at h2;unfold qbu at h2;simp only [Bool.and_eq_true] at h2;have h3:(T.nodes.getD 0 default).id=1:=by simpa using h2.1.1.1.1
 refine ⟨h0,h3,?_⟩;exact qra (i:=0) h0 (by rw [<-h3];simp [List.getD,h0]) (fun j hj=>by omega)
attribute [local irreducible] nodeOk qae atI joinB nameB
end
section
variable {ns:List NM} {T:TM}
def idsB (T:TM):Bool:=decide (T.next<=100000)&&(List.range T.nodes.length).all fun i=>decide ((T.nodes.getD i default).id<T.next)&&(decide (i=0)||decide ((T.nodes.getD (i - 1) default).id<(T.nodes.getD i default).id))
def rootB (n:NM):Bool:=(n.id==1)&&(n.parent==0)&&decide (n.name=⟨#[]⟩)&&n.dir&&inI n.schema 1 3
def kindB (n:NM):Bool:=if n.dir then dirOk n else fileOk n
theorem fnm_self {i:Nat} (hi:i<ns.length):∃ k,fnm ns ns[i].parent ns[i].name=some k/\k<=i:=by
 cases hf:fnm ns ns[i].parent ns[i].name with
 | none=>exact absurd rfl (qqf hf _ (List.getElem_mem hi) rfl)
 | some k =>
  refine ⟨k,rfl,Nat.le_of_not_lt fun hlt=>?_⟩;exact qob hf i hlt hi rfl rfl
theorem qqh (h:Asc ns) {i:Nat} (hi:i<ns.length) (h0:i ≠ 0):qfv ns i=(nameB (ns.getD i default).name&&decide (0<=atI ns (ns.getD i default).parent)&&(ns.getD (atI ns (ns.getD i default).parent).toNat default).dir &&
  (List.range i).all (fun j=>! (((ns.getD j default).parent==(ns.getD i default).parent)&&decide ((ns.getD j default).name=(ns.getD i default).name)))&&climbs ns 4 (ns.getD i default).id):=by
 unfold qfv;rw [clm_climbs h hi h0]
 have e1:qqg ns i=(List.range i).all (fun j=>! (((ns.getD j default).parent==(ns.getD i default).parent)&&decide ((ns.getD j default).name=(ns.getD i default).name))):=by
  obtain ⟨k,hk,hki⟩:=fnm_self hi;rw [qkj (k:=k) (by rw [getD_in hi];exact hk),getD_in hi];obtain ⟨hkl,kp,kn⟩:=qlt hk;rw [getD_in hkl]
  by_cases e:k=i
  ·subst e
   simp only [beq_self_eq_true];refine (List.all_eq_true.2 fun j hj=>?_).symm;have hj':j<k:=by simpa using hj
   have:=qob hk j hj' (by omega);rw [getD_in (by omega:j<ns.length)]
   by_cases hp:ns[j].parent=ns[k].parent
   ·simp [hp,this hp]
   ·simp [hp]
  ·have hlt:=h.lt i hi k (by omega)
   rw [getD_in hkl] at hlt;have hne:(ns[k].id==ns[i].id)=false:=by simp;omega
   rw [hne]
   symm
   refine Bool.eq_false_iff.2 fun hall=>?_;have:=List.all_eq_true.1 hall k (by simp;omega);rw [getD_in hkl] at this;simp [kp,kn] at this
 have e2:dirB ns (ns.getD i default).parent=(decide (0<=atI ns (ns.getD i default).parent)&&(ns.getD (atI ns (ns.getD i default).parent).toNat default).dir):=by
  rw [qoc]
  cases hf:fid ns (ns.getD i default).parent with
  | none=>rw [qoe hf];simp
  | some k=>rw [qod hf];simp
 rw [e1,e2];cases nameB (ns.getD i default).name <;> cases decide (0<=atI ns (ns.getD i default).parent) <;> cases (ns.getD (atI ns (ns.getD i default).parent).toNat default).dir <;> cases climbs ns 4 (ns.getD i default).id <;> simp
theorem qmw (h:idsB T=true) (hr:rootB (T.nodes.getD 0 default)=true) (hl:0<T.nodes.length):Asc T.nodes:=by
 unfold idsB at h;simp only [Bool.and_eq_true,decide_eq_true_eq,List.all_eq_true,List.mem_range,Bool.or_eq_true] at h;unfold rootB at hr;simp only [Bool.and_eq_true,beq_iff_eq,decide_eq_true_eq] at hr;refine ⟨fun i hi h0=>?_,hl,hr.1.1.1.1,hr.1.1.1.2⟩;rcases (h.2 i hi).2 with e | e
 ·omega
 ·rw [getD_in hi] at e;exact e
def progB (T:TM):Bool:=inI (T.nodes.length:Int) 1 14&&idsB T&&rootB (T.nodes.getD 0 default)&&(List.range T.nodes.length).all fun i=>kindB (T.nodes.getD i default)&&(decide (i=0)||qfv T.nodes i)
theorem qfw (T:TM):progB T=qae T:=by
 rw [Bool.eq_iff_iff];constructor
 ·intro h
  unfold progB at h;simp only [Bool.and_eq_true,List.all_eq_true,List.mem_range,Bool.or_eq_true,decide_eq_true_eq] at h;obtain ⟨⟨⟨h1,h2⟩,h3⟩,h4⟩:=h;have hl:=inI_iff.1 h1;have ha:=qmw h2 h3 (by omega);have h2':=h2;unfold idsB at h2';simp only [Bool.and_eq_true,decide_eq_true_eq,List.all_eq_true,List.mem_range,Bool.or_eq_true] at h2';refine qml h1 h2'.1 fun i hi=>?_;obtain ⟨k1,k2⟩:=h4 i hi;unfold nodeOk;rw [decide_eq_true (h2'.2 i hi).1]
  by_cases e:i=0
  ·subst e
   have h3':=h3;unfold rootB at h3';simp only [Bool.and_eq_true,beq_iff_eq,decide_eq_true_eq] at h3';have hs:=inI_iff.1 h3'.2;unfold kindB at k1;rw [if_pos h3'.1.2] at k1;unfold qbu;rw [if_pos rfl,if_pos h3'.1.2,k1,h3'.1.1.1.1,h3'.1.1.1.2,h3'.1.1.2,h3'.1.2];have:((T.nodes.getD 0 default).schema != 0)=true:=by rw [bne_iff_ne];omega
   rw [this]
   rfl
  ·rw [if_neg e]
   have h5:=(h2'.2 i hi).2.resolve_left e;rw [decide_eq_true h5];unfold kindB at k1;rw [k1,<-qqh ha hi e];simp [k2.resolve_left e]
 ·intro h
  have h14:=qif h;obtain ⟨hl,he,_⟩:=treeOk_first h;have hn:∀ i,i<T.nodes.length->nodeOk T i=true:=fun i hi=>qdc h hi
  have hnx:T.next<=100000:=by
   unfold qae at h;simp only [Bool.and_eq_true,decide_eq_true_eq] at h;exact h.1.2
  have h0:=hn 0 hl;unfold nodeOk at h0;rw [if_pos rfl] at h0;simp only [Bool.and_eq_true,decide_eq_true_eq] at h0;obtain ⟨⟨⟨_,hf⟩,hk0⟩,_⟩:=h0;unfold qbu at hf;simp only [Bool.and_eq_true,beq_iff_eq,decide_eq_true_eq,bne_iff_ne] at hf
  have hr:rootB (T.nodes.getD 0 default)=true:=by
   unfold rootB;rw [hf.1.1.1.1,hf.1.1.1.2,hf.1.1.2,hf.1.2];rw [if_pos hf.1.2] at hk0;unfold dirOk at hk0;simp only [Bool.and_eq_true] at hk0;have:=inI_iff.1 hk0.1.1.1.1;have:inI (T.nodes.getD 0 default).schema 1 3=true:=inI_iff.2 ⟨by omega,by omega⟩;rw [this]
   rfl
  have hids:idsB T=true:=by
   unfold idsB;rw [decide_eq_true hnx];simp only [Bool.true_and];refine List.all_eq_true.2 fun i hi=>?_;have hi':i<T.nodes.length:=by simpa using hi
   have h1:=hn i hi';unfold nodeOk at h1;simp only [Bool.and_eq_true] at h1;rw [h1.1.1.1]
   by_cases e:i=0
   ·simp [e]
   ·have h2:=h1.1.1.2
    rw [if_neg e] at h2;rw [h2];simp
  have ha:=qmw hids hr hl;unfold progB;rw [hids,hr,inI_iff.2 ⟨by omega,by omega⟩];simp only [Bool.true_and];refine List.all_eq_true.2 fun i hi=>?_;have hi':i<T.nodes.length:=by simpa using hi
  have h1:=hn i hi';unfold nodeOk at h1;simp only [Bool.and_eq_true,Bool.or_eq_true] at h1;unfold kindB;rw [h1.1.2]
  by_cases e:i=0
  ·simp [e]
  ·have h2:=h1.2.resolve_left (by simp [e])
   rw [qqh ha hi' e];simp only [Bool.true_and,Bool.or_eq_true]
   right
   simp only [Bool.and_eq_true];exact h2
theorem qee (h:qae T=true):Tall T.nodes:=by
 rw [<-qfw] at h;unfold progB at h;simp only [Bool.and_eq_true,List.all_eq_true,List.mem_range,Bool.or_eq_true,decide_eq_true_eq] at h;obtain ⟨⟨⟨h1,h2⟩,h3⟩,h4⟩:=h;have hl:=inI_iff.1 h1;have ha:=qmw h2 h3 (by omega);refine ⟨ha,fun i hi=>?_⟩
 by_cases e:i=0
 ·subst e;exact ⟨0,by omega,.root⟩
 ·have:=(h4 i hi).2.resolve_left e
  unfold qfv at this;simp only [Bool.and_eq_true] at this;exact qrv ha 4 i hi this.2
end
end Go.Proofs.YtackbhpgdohimaaGreatDoor
