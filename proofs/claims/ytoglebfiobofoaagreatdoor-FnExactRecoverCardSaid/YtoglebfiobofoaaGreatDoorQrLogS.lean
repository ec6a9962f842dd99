/- Texts of ours, laid one behind the other: LogS. -/
import Derived.Test.YtoglebfiobofoaaGreatDoorQr3
import Derived.Deep.RegionHeld3
import Derived.Maps.AppendAt
/- LogS: . -/
namespace Go.Proofs.YtoglebfiobofoaaGreatDoor
set_option maxRecDepth 100000
set_option maxHeartbeats 16000000
open Go.RowKit BigFrame
attribute [local go_sem ↓] Go.wp_at_zero Go.wp_at_succ
variable {xs:List ByteArray} {es:List EM} {a:Option Addr} {v:Value} {w w' w1 wr:World}
theorem WRow.grown9 {g:Nat} {row:Option Nat} (h:WRow w g xs) (hg:w.grownBy w' row) (hr:row ≠ some g):WRow w' g xs:=by
 have hblk:=hg.block g h.1 (fun e=>hr e.symm)
 refine ⟨Nat.lt_of_lt_of_le h.1 hg.size,fun j hj=>⟨?_,?_⟩⟩
 ·rw [World.cell?_of_block (w:=w) hblk];exact (h.2 j hj).1
 ·rw [World.frozen?_of_block (w:=w) hblk];exact (h.2 j hj).2
structure LS (w w1 wr:World) (v:Value) (a:Option Addr) (xs:List ByteArray) (es:List EM):Prop where
 own:wr.ownsRow w.heap.size 33 5 v es.length (ecs es)
 far:∀ q,v.ownBlock=some q->q=w.heap.size\/w1.heap.size<=q
 row:xs=[]\/∃ g,a=some ⟨g,0,none⟩/\w.heap.size<g/\g<w1.heap.size/\WRow wr g xs
 bel:Below w.heap.size w wr
 siz:w1.heap.size<=wr.heap.size
theorem LS.below (h:LS w w1 wr v a xs es) (hb:Below wr.heap.size wr w'):LS w w1 w' v a xs es:=
 ⟨h.own.kept (row:=none) ⟨hb.os,hb.tape,hb.output,hb.size,fun k hk _=>hb.block k hk⟩ (Classical.em _),h.far,h.row.imp id fun ⟨g,h1,h2,h3,h4⟩=>⟨g,h1,h2,h3,h4.below hb h4.1⟩,h.bel.trans (hb.mono h.bel.size),Nat.le_trans h.siz hb.size⟩
theorem LS.alloc (h:LS w w1 wr v a xs es) (o:Obj):LS w w1 (wr.alloc o) v a xs es:=h.below ((Below.refl _ _).alloc (Nat.le_refl _) o)
theorem LS.more {w w1 wr wa w':World} {v v':Value} {X:EM} (h:LS w w1 wr v a xs es) (ha:Below wr.heap.size wr wa) (ho:w'.ownsRow w.heap.size 33 5 v' (es.length+1) (ecs es++qah X)) (hg:wa.grownBy w' v.ownBlock) (hat:v'.ownBlock=v.ownBlock\/v'.ownBlock=some wa.heap.size):LS w w1 w' v' a xs (es++[X]):=by
 have h2:=h.below ha
 refine ⟨?_,?_,?_,h2.bel.grown hg h2.bel.size fun q e=>?_,Nat.le_trans h2.siz hg.size⟩
 ·rw [List.length_append,<-qqg];exact ho
 ·intro q e
  rcases hat with e2 | e2
  ·exact h.far q (by rw [<-e2];exact e)
  ·rw [e2] at e;cases e;exact .inr h2.siz
 ·rcases h2.row with e | ⟨g,h3,h4,h5,h6⟩
  ·exact .inl e
  ·exact .inr ⟨g,h3,h4,h5,h6.grown9 hg fun e=>by rcases h.far g e with e | e <;> omega⟩
 ·rcases h.far q e with e | e
  ·omega
  ·have:=h.bel.size;have:=h.own.lt q (by assumption);omega
theorem specReadLog (s:ByteArray) (w:World) (hs:s.size<=1048576):Calls Tryz.prog 43 #[.string s] w fun e w'=>qpk s w e w':=by
 obtain ⟨i0,hin,hz0,hz1,hz2⟩:=info_parts qnu
 have HU:=Sh.mk (fun (W0:World)=>specUnframe s W0 hs)
 unfold UnfPost at HU
 have HL:=Sh.mk (W.framesOf_len s)
 have HN:=Sh.mk (frames_next s)
 have HR:=Sh.mk (fun x (h:x ∈ W.framesOf s)=>qfa h)
 have HP:Sh (∀ e w',qpk s w e w'↔∃ v,e = .returned (.tuple #[v,.int .i64 (W.endOf ((W.framesOf s).takeWhile isRec):Nat)])/\w'.ownsRow w.heap.size 33 5 v (recE ((W.framesOf s).takeWhile isRec)).length (ecs (recE ((W.framesOf s).takeWhile isRec)))/\Below w.heap.size w w'):=⟨fun _ _=>Iff.rfl⟩
 generalize W.framesOf s=X at *
 obtain ⟨n,hn⟩:∃ n,n=X.length:=⟨_,rfl⟩
 have hrl:(W.recsOf X).length=n:=by rw [W.recsOf_len];exact hn.symm
 rw [hrl] at HU
 have HLn:=Sh.mk hn
 have hn9:n<=20000:=by rw [hn];exact HL.1
 clear hn hrl HL
 have hO:=World.ownsRow_made (e:=33) (size:=5) (base:=w.heap.size) w #[] 0 (Nat.le_refl _) (by decide) rfl
 have HO:=Sh.mk hO
 clear hO
 go_enter Tryz.func43,Tryz.ntmps43
 go_wp2_with fail
 refine (HU.1 _).mono ?_
 rintro e w1 ⟨a,cap,rfl,hr,hb⟩
 have H0:Sh (LS w w1 w1 (.slice (some ⟨w.heap.size,0,none⟩) 0 0) a (W.recsOf X) []):=⟨by
  have hb0:Below w.heap.size w (w.alloc (.cells #[] 33)):=(Below.refl _ _).alloc (Nat.le_refl _) _
  refine ⟨HO.1.kept (row:=none) ⟨hb.os,hb.tape,hb.output,hb.size,fun k hk _=>hb.block k hk⟩ (Classical.em _),fun q e=>.inl (by simp [Value.ownBlock] at e;exact e.symm),?_,hb0.trans (hb.mono hb0.size),Nat.le_refl _⟩
  rcases hr.2 with e | ⟨g,e,h1,h2⟩
  ·exact .inl e
  ·exact .inr ⟨g,e,by simp at h1;omega,h2.1,h2⟩⟩
 clear hr hb HO
 go_wp2_with fail
 go_loopw [4,5,8] (fun v c i wr=>∃ (k:Nat) (vv:Value),vv=v/\i = .int .i64 k/\c = .int .i64 (W.endOf (X.take k):Nat)/\k<=n/\Sh ((∀ x ∈ X.take k,isRec x=true)/\LS w w1 wr vv a (W.recsOf X) (recE (X.take k)))) (fun _ _ i _=>n - (intOf i).toNat)
 case atStart=>exact ⟨0,_,rfl,rfl,rfl,Nat.zero_le _,⟨⟨by simp,H0.1⟩⟩⟩
 case round =>
  obtain ⟨k,vv,rfl,rfl,rfl,hk,hS⟩:=hrel
  have hkl:(recE (X.take k)).length=k:=by rw [qmj,List.length_take];have:=HLn.1;omega
  have HKL:=Sh.mk hkl
  clear H0 hkl
  by_cases hlt:k<n
  ·have hx:k<X.length:=by have:=HLn.1;omega
   obtain ⟨x,hxe⟩:∃ x,x=X[k]:=⟨_,rfl⟩
   have hrx:=HR.1 x (by rw [hxe];exact List.getElem_mem hx)
   have HNK:Sh (W.endOf (X.take k)+(qdf x.1).size=x.2):=⟨by rw [hxe];exact HN.1 k hx⟩
   have HTK:Sh (X.take (k+1)=X.take k++[x]):=⟨by rw [hxe];exact List.take_succ_eq_append_getElem hx⟩
   have HDR:Sh (X=X.take k++x::X.drop (k+1)):=⟨by rw [hxe,<-List.drop_eq_getElem_cons hx,List.take_append_drop]⟩
   obtain ⟨r,b⟩:=x
   dsimp only at hrx HNK
   obtain ⟨hr1,hr2,hr3⟩:=hrx
   rcases hS.1.2.row with e0 | ⟨g,rfl,hg1,hg2,hwr⟩
   ·exfalso
    have:=congrArg List.length e0
    rw [W.recsOf_len] at this
    simp at this
    have:=HLn.1
    simp_all
   have hck:wr.cell? ⟨g,k,none⟩=some (.string r):=by
    have:=(hwr.2 k (by rw [W.recsOf_len];exact hx)).1
    rw [this]
    unfold W.recsOf
    simp [List.getD,hx,<-hxe]
   have k0:(0:Int)<=(k:Int):=by omega
   have k1:(k:Int)<(n:Int):=by omega
   have hfr:=specReadEdit r
   generalize hre:readE r=re at hfr
   have HRE:=Sh.mk hre
   have HFR:=Sh.mk hfr
   obtain ⟨X1,ok⟩:=re
   dsimp only at HFR
   clear hxe hx hfr hre hwr
   go_upto_region 8 with (go_at_call 83;refine (HFR.1 _ (by omega)).mono ?_;rintro e w2 ⟨rfl,hb2⟩)
   have hcs:WCells (w2.alloc (.cells #[.int .i64 X1.kind,.string X1.path,.string X1.dest,.int .i64 X1.num,.int .i64 X1.who] 33)) w2.heap.size (qah X1):=qad w2 _ _
   refine qaa (fun W'=>WCells W' w2.heap.size (qah X1)/\LS w w1 W' vv (some ⟨g,0,none⟩) (W.recsOf X) (recE (X.take k))/\W'.cell? ⟨g,k,none⟩=some (.string r)) ⟨hcs,(hS.1.2.below hb2).alloc _,by rw [World.cell?_alloc_lt _ _ _ (Nat.lt_of_lt_of_le (qdo hck) hb2.size),hb2.cell (qdo hck)];exact hck⟩ ?_
   rintro W3 ⟨hc3,hL3,hk3⟩
   have HA:=Sh.mk hS.1.1
   clear hcs hck hS
   have HC3:=Sh.mk hc3
   have HL3:=Sh.mk hL3
   have hfb:=qiu r
   rw [qrs ⟨hr1,hr2⟩] at hfb
   have HFB:=Sh.mk hfb
   clear hfb hL3 hc3
   cases ok with
   | false =>
    have HE:Sh (X.takeWhile isRec=X.take k):=⟨by
     have hd:=HDR.1
     have:isRec (r,b)=false:=by unfold isRec;rw [HRE.1]
     rw [congrArg (List.takeWhile isRec) hd,qld HA.1 this]⟩
    go_wp2_with fail
    go_ret2
    refine (HP.1 _ _).2 ?_
    rw [HE.1,HKL.1]
    exact ⟨_,rfl,by have:=HL3.1.own;rw [HKL.1] at this;exact this,HL3.1.bel⟩
   | true =>
    have hir:isRec (r,b)=true:=by unfold isRec;rw [HRE.1]
    go_upto_region 11 with (go_at_call 51;refine (HFB.1 _).mono ?_;rintro e w4 ⟨rfl,hb4⟩)
    have HC4:=Sh.mk (HC3.1.grow hb4)
    have HL4:=Sh.mk (HL3.1.below hb4)
    clear HC3 HL3 hb4 hb2 hk3
    have b0:=(HC4.1.2 0 _ rfl).1
    have b1:=(HC4.1.2 1 _ rfl).1
    have b2:=(HC4.1.2 2 _ rfl).1
    have b3:=(HC4.1.2 3 _ rfl).1
    have b4:=(HC4.1.2 4 _ rfl).1
    have hown:=HL4.1.own
    rw [HKL.1] at hown
    have hbs:=HL4.1.bel.size
    obtain ⟨at0,hat0⟩:∃ q,q=W.endOf (X.take k):=⟨_,rfl⟩
    obtain ⟨fz,hfz⟩:∃ q,q=(qdf r).size:=⟨_,rfl⟩
    have hnx:at0+fz=b:=by rw [hat0,hfz];exact HNK.1
    have HAT:=Sh.mk hat0
    rw [<-hat0]
    clear hat0
    go_wp2_with (at_builtin;refine wpList_append_own_at _ rfl _ _ 24 rfl w.heap.size 33 i0 _ 5 56 Tryz.underlying24 hin hz0 hz1 hz2 rfl (by decide) _ _ _ rfl (hown.alloc _) ⟨w4.heap.size,0,none⟩ 1 1 [.int .i64 X1.kind,.string X1.path,.string X1.dest,.int .i64 X1.num,.int .i64 X1.who] rfl rfl (World.news_of_block (cs:=#[.int .i64 X1.kind,.string X1.path,.string X1.dest,.int .i64 X1.num,.int .i64 X1.who]) (t:=33) (fr:=(0,0)) (heap_alloc_new w4 _)) ?c2 ?c3 ?c4 ?c5 ?_)
    case c2=>simp [Value.oneCell']
    case c3=>unfold maxLen;omega
    case c4=>omega
    case c5=>simp;omega
    intro v5 w5 hown5 hgrow5 _ hat5
    have HL5:=Sh.mk (HL4.1.more (X:=X1) ((Below.refl _ _).alloc (Nat.le_refl _) _) (by rw [HKL.1];exact hown5) hgrow5 (by simpa using hat5))
    clear hown5 hgrow5 hat5 hown b0 b1 b2 b3 b4
    have HSZ:=Sh.mk hfz
    clear hfz
    have hz':(qdf r).size=fz:=HSZ.1.symm
    go_wp2_with fail
    go_roundw
    case rel =>
     refine ⟨k+1,v5,rfl,by go_num,congrArg (Value.int .i64) ?_,by omega,⟨⟨?_,?_⟩⟩⟩
     ·rw [HTK.1,W.endOf_snoc];omega
     ·rw [HTK.1]
      intro x hx
      rcases List.mem_append.1 hx with hx | hx
      ·exact HA.1 x hx
      ·rw [List.mem_singleton.1 hx];exact hir
     ·rw [HTK.1,qns]
      have:(readE (r,b).1).1=X1:=by rw [HRE.1]
      rw [this]
      exact HL5.1
    case measure=>simp [intOf];omega
  ·have e:k=n:=by omega
   subst e
   have HE:Sh (X.takeWhile isRec=X.take k):=⟨by
    have e2:X.take k=X:=List.take_of_length_le (by have:=HLn.1;omega)
    rw [e2]
    have:=hS.1.1
    rw [e2] at this
    exact qnt this⟩
   go_wp2_with fail
   go_ret2
   refine (HP.1 _ _).2 ?_
   rw [HE.1,HKL.1]
   exact ⟨_,rfl,by have:=hS.1.2.own;rw [HKL.1] at this;exact this,hS.1.2.bel⟩
end Go.Proofs.YtoglebfiobofoaaGreatDoor
