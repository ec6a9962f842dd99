/- Texts of ours, laid one behind the other: ChF, ChE, AllF. -/
import Derived.Test.YtoglebfiobofoaaGreatDoorQr11
import Derived.Test.YtoglebfiobofoaaGreatDoorQr9
import Derived.Test.YtoglebfiobofoaaGreatDoorQr4
import Derived.Test.YtoglebfiobofoaaGreatDoorQrStI
import Derived.Laws.IdiomCopy
/- ChF: . -/
namespace Go.Proofs.YtoglebfiobofoaaGreatDoor
set_option maxRecDepth 100000
set_option maxHeartbeats 16000000
open Go.RowKit
attribute [local go_sem ↓] Go.wp_at_zero Go.wp_at_succ
variable {L:List (Nat × List Value)} {rs xs:List NR} {r:NR} {B cap cap1 g gg i j k m n sz t:Nat} {new:PM} {W W' W1 w w0 w5:World}
theorem NB.grow0 (h:NB w B (.slice (some ⟨g,0,none⟩) n cap) rs) (hn:rs.length=n) (hk:rs[k]?=some r) (hba:Below w.heap.size w W1) (hgrow:W1.grownBy w5 (Value.slice r.loc r.nd.pieces.length r.cap).ownBlock)
  (ho:w5.ownsRow B 138 2 (.slice (some ⟨gg,0,none⟩) (r.nd.pieces.length+1) cap1) (r.nd.pieces.length+1) (pcs r.nd.pieces++qfe new)) (hat:(Value.slice r.loc r.nd.pieces.length r.cap).ownBlock=some gg\/w.heap.size<=gg) :
  NB (w5.setCell ⟨g,k*9+7,none⟩ (.slice (some ⟨gg,0,none⟩) (r.nd.pieces.length+1) cap1)) B (.slice (some ⟨g,0,none⟩) n cap) (rs.set k ⟨{ r.nd with pieces:=r.nd.pieces++[new] },some ⟨gg,0,none⟩,cap1⟩):=by
 subst hn
 obtain ⟨hk',er⟩:=List.getElem?_eq_some_iff.1 hk
 subst er
 have hN:=h.below hba
 have hlt:∀ s ∈ rs,∀ q,s.loc=some q->q.block<w.heap.size:=fun s hs q e=>((h.rows s hs).lt q.block (by rw [e];rfl)).2
 obtain ⟨cg,hcg⟩:=qau hN.own (show (Value.slice (some ⟨g,0,none⟩) rs.length cap).ownBlock=some g from rfl)
 have hgo:(Value.slice rs[k].loc rs[k].nd.pieces.length rs[k].cap).ownBlock ≠ some g:=fun e=>by
  obtain ⟨c1,h1⟩:=qau (hN.rows _ (List.getElem_mem hk')) e
  rw [hcg] at h1
  simp at h1
 have hown5:=hN.own.kept hgrow (.inr (by intro e;exact hgo e.symm))
 have hggg:gg ≠ g:=by
  have hgl:=(h.own.lt g rfl).2
  rcases hat with e | e
  ·intro e2;rw [e2] at e;exact hgo e
  ·omega
 have hst:=(hown5.stored (k*9+7) (.slice (some ⟨gg,0,none⟩) (rs[k].nd.pieces.length+1) cap1)).1
 have ha:=List.pairwise_iff_getElem.1 h.apart
 have hap:∀ j (hj:j<rs.length),j ≠ k->rs[j].loc ≠ none->rs[k].loc ≠ none->rs[j].loc ≠ rs[k].loc:=fun j hj hjk h1 h2=>by
  rcases Nat.lt_or_gt_of_ne hjk with q | q
  ·exact ha j k hj hk' q h1 h2
  ·exact fun e=>ha k j hk' hj q h2 h1 e.symm
 refine ⟨?_,fun s hs=>?_,?_⟩
 ·rw [List.length_set,<-qhf rs k hk' 7 (by omega) (.slice (some ⟨gg,0,none⟩) (rs[k].nd.pieces.length+1) cap1) _ (by simp [qaj])]
  exact hst
 ·obtain ⟨j,hj,rfl⟩:=List.mem_iff_getElem.1 hs
  rw [List.length_set] at hj
  rw [List.getElem_set]
  split
  ·have e:pcs (rs[k].nd.pieces++[new])=pcs rs[k].nd.pieces++qfe new:=by simp [pcs]
   show World.ownsRow _ _ _ _ (.slice (some ⟨gg,0,none⟩) (rs[k].nd.pieces++[new]).length cap1) (rs[k].nd.pieces++[new]).length (pcs (rs[k].nd.pieces++[new]))
   rw [e,List.length_append,List.length_singleton]
   exact ho.kept (qak _ _ _ _) (.inr (by simp [Value.ownBlock];exact hggg))
  ·rename_i hjk
   have h1:w5.ownsRow B 138 2 (.slice rs[j].loc rs[j].nd.pieces.length rs[j].cap) rs[j].nd.pieces.length (pcs rs[j].nd.pieces):=by
    refine (hN.rows _ (List.getElem_mem hj)).kept hgrow ?_
    cases e:rs[j].loc with
    | none=>exact .inl rfl
    | some q =>
     refine .inr fun e2=>?_
     cases e3:rs[k].loc with
     | none=>rw [e3] at e2;cases e2
     | some q' =>
      have hne:=hap j hj (fun e=>hjk e.symm) (by rw [e];simp) (by rw [e3];simp)
      rw [e,e3] at hne
      rw [e3] at e2
      have z1:=qfk (by have:=h.rows _ (List.getElem_mem hj);rw [e] at this;exact this)
      have z2:=qfk (by have:=h.rows _ (List.getElem_mem hk');rw [e3] at this;exact this)
      simp [Value.ownBlock] at e2
      exact hne (by rw [z1,z2,e2])
   refine h1.kept (qak _ _ _ _) ?_
   cases e:rs[j].loc with
   | none=>exact .inl rfl
   | some q =>
    refine .inr fun e2=>?_
    obtain ⟨c1,h2⟩:=qau (hN.rows _ (List.getElem_mem hj)) (by rw [e];exact e2)
    rw [hcg] at h2
    simp at h2
 ·have hnew:∀ j (hj:j<rs.length),j ≠ k->rs[j].loc ≠ some ⟨gg,0,none⟩:=fun j hj hjk e=>by
   rcases hat with q | q
   ·cases e3:rs[k].loc with
    | none=>rw [e3] at q;cases q
    | some q' =>
     rw [e3] at q
     have z2:=qfk (by have:=h.rows _ (List.getElem_mem hk');rw [e3] at this;exact this)
     simp [Value.ownBlock] at q
     exact hap j hj hjk (by rw [e];simp) (by rw [e3];simp) (by rw [e,e3,z2,q])
   ·have:=hlt _ (List.getElem_mem hj) _ e
    simp at this
    omega
  refine List.pairwise_iff_getElem.2 fun a b ha' hb' hab=>?_
  rw [List.length_set] at ha' hb'
  rw [List.getElem_set,List.getElem_set]
  split
  ·rename_i h1
   rw [if_neg (by omega)]
   intro _ _ e
   exact hnew b hb' (by omega) e.symm
  ·split
   ·rename_i h1 h2
    intro _ _ e
    exact hnew a ha' (by omega) e
   ·exact ha a b ha' hb' hab
theorem SS.grow (h:SS w0 W L B (some ⟨g,0,none⟩) n cap rs) (hk:rs[k]?=some r) (hba:Below W.heap.size W W1) (hgrow:W1.grownBy w5 (Value.slice r.loc r.nd.pieces.length r.cap).ownBlock)
  (ho:w5.ownsRow B 138 2 (.slice (some ⟨gg,0,none⟩) (r.nd.pieces.length+1) cap1) (r.nd.pieces.length+1) (pcs r.nd.pieces++qfe new)) (hat:(Value.slice r.loc r.nd.pieces.length r.cap).ownBlock=some gg\/W.heap.size<=gg) :
  SS w0 (w5.setCell ⟨g,k*9+7,none⟩ (.slice (some ⟨gg,0,none⟩) (r.nd.pieces.length+1) cap1)) L B (some ⟨g,0,none⟩) n cap (rs.set k ⟨{ r.nd with pieces:=r.nd.pieces++[new] },some ⟨gg,0,none⟩,cap1⟩):=by
 obtain ⟨hk',er⟩:=List.getElem?_eq_some_iff.1 hk
 have hmem:r ∈ rs:=by rw [<-er];exact List.getElem_mem hk'
 have hgB:B<=g:=(h.nb.own.lt g rfl).1
 have hfar:∀ p ∈ L,(Value.slice r.loc r.nd.pieces.length r.cap).ownBlock ≠ some p.1:=fun p hp e=>by
  cases hl:r.loc with
  | none=>rw [hl] at e;cases e
  | some q =>
   rw [hl] at e
   simp [Value.ownBlock] at e
   exact (h.ap p hp).2 r hmem q hl e
 refine ⟨((h.mb.below hba).far hgrow hfar (fun q e=>?_)).far (qak w5 g _ _) (fun p hp e=>(h.ap p hp).1 ⟨g,0,none⟩ rfl (by cases e;rfl)) (fun q e=>by cases e;show w0.heap.size<=g;have:=h.lo;omega),h.nb.grow0 h.len hk hba hgrow ho hat,by rw [List.length_set];exact h.len,fun p hp=>⟨(h.ap p hp).1,fun s hs q e=>?_⟩,h.lo⟩
 ·have:=((h.nb.rows r hmem).lt q e).1
  have:=h.lo
  omega
 ·rcases List.mem_or_eq_of_mem_set hs with m | m
  ·exact (h.ap p hp).2 s m q e
  ·rw [m] at e
   cases e
   show gg ≠ p.1
   rcases hat with e | e
   ·exact fun e2=>hfar p hp (by rw [e,e2])
   ·have:=(h.mb.box p hp).1.1
    omega
theorem SS.add {a:Option Addr} (h:SS w0 W L B a n cap rs) (hb:Below W.heap.size W W') {gl:Nat} {X:List Value} (hX:WCells W' gl X) (hl:W.heap.size<=gl):SS w0 W' ((gl,X)::L) B a n cap rs:=by
 have h':=h.below hb
 refine ⟨⟨fun p hp=>?_,List.pairwise_cons.2 ⟨fun p hp=>?_,h'.mb.dist⟩,h'.mb.bel⟩,h'.nb,h'.len,fun p hp=>?_,h'.lo⟩
 ·rcases List.mem_cons.1 hp with rfl | hp
  ·exact ⟨hX,Nat.le_trans h.mb.bel.size hl⟩
  ·exact h'.mb.box p hp
 ·have:=(h.mb.box p hp).1.1
  show gl ≠ p.1
  omega
 ·rcases List.mem_cons.1 hp with rfl | hp
  ·refine ⟨fun q e=>?_,fun r hr q e=>?_⟩
   ·have:=h.nb.row_lt q e
    show q.block ≠ gl
    omega
   ·have:=h.nb.lts r hr q e
    show q.block ≠ gl
    omega
  ·exact h'.ap p hp
theorem chAdd (h:SS w0 W L B (some ⟨g,0,none⟩) n cap rs) (hk:rs[k]?=some r) (tp:Value) (path:ByteArray) (num gr:Int) (hne:qaw r.nd.schema num ≠ []) (hsl:(qaw r.nd.schema num).length<=1000) (hpl:r.nd.pieces.length<=1000) (hln:0<=r.nd.len/\r.nd.len<=1000) (hnum:0<=num/\num<=1000) (hgr:0<=gr/\gr<=1000000) :
  Calls Tryz.prog 245 #[.agg #[.string path,.int .i64 num],tp,.pointer (some ⟨g,k*9,none⟩),.int .i64 gr] W fun e w'=>e = .returned (.tuple #[])/\∃ lc cp,SS w0 w' L B (some ⟨g,0,none⟩) n cap (rs.set k (⟨{ r.nd with pieces:=r.nd.pieces++newP gr (qaw r.nd.schema num),len:=r.nd.len+num },lc,cp⟩:NR)):=by
 obtain ⟨j0,hjn,hy0,hy1,hy2⟩:=info_parts qfl
 have HSP:=Sh.mk (fun W'=>qoi r.nd.schema num W')
 unfold IPost at HSP
 obtain ⟨ls,hls⟩:∃ ls,ls=qaw r.nd.schema num:=⟨_,rfl⟩
 rw [<-hls] at HSP hne hsl ⊢
 have HNE:=Sh.mk hne
 have HS:=Sh.mk h
 have HK:=Sh.mk hk
 have hkr:k<rs.length:=(List.getElem?_eq_some_iff.1 hk).1
 have hrk:rs.set k r=rs:=by
  obtain ⟨hk',e⟩:=List.getElem?_eq_some_iff.1 hk
  rw [<-e,List.set_getElem_self]
 have HRK:=Sh.mk hrk
 obtain ⟨schema,hsch⟩:∃ q,q=r.nd.schema:=⟨_,rfl⟩
 obtain ⟨ln,hlnn⟩:∃ q,q=r.nd.len:=⟨_,rfl⟩
 have HSCH:=Sh.mk hsch
 have HLN:=Sh.mk hlnn
 rw [<-hsch] at HSP
 rw [<-hlnn] at hln
 clear h hk hls hne hrk hsch hlnn
 go_enter Tryz.func245,Tryz.ntmps245
 go_upto_region 1 with fail
 obtain ⟨rb,hrb⟩:∃ rb,rb=W.heap.size:=⟨_,rfl⟩
 refine qaa (fun V=>SS w0 V ((rb,[.string path,.int .i64 num])::L) B (some ⟨g,0,none⟩) n cap rs) (by rw [hrb];exact HS.1.new #[.string path,.int .i64 num] 233) ?_
 intro W1 hS1
 have HS1:=Sh.mk hS1
 rw [<-hrb]
 clear hS1 hrb HS
 have HLE:Sh (∀ x,Later W1.drew x->x.cell? ⟨g,k*9+4,none⟩=some (.int .i64 schema)/\x.cell? ⟨rb,1,none⟩=some (.int .i64 num)):=⟨fun x hx=>by
  have S:=HS1.1.below (Below.trans (Below.drew (Below.refl _ _)) hx)
  exact ⟨by rw [HSCH.1];exact (S.cell HK.1 4 _ rfl).1,((S.mb.at 0 rfl).1.2 1 _ rfl).1⟩⟩
 refine qas 9 (by kernel_rfl) ?_
 refine wpK_v 0 rfl (fun x hx=>by obtain ⟨d0,d1⟩:=HLE.1 x hx;go_simp;try with_reducible rfl) ?_
 try simp only [Act.put,qA,qB,qC]
 refine wpK_v 1 rfl (fun x hx=>by obtain ⟨d0,d1⟩:=HLE.1 x hx;go_simp;try with_reducible rfl) ?_
 try simp only [Act.put,qA,qB,qC]
 refine wpK_v 2 rfl (fun x hx=>by obtain ⟨d0,d1⟩:=HLE.1 x hx;go_simp;try with_reducible rfl) ?_
 try simp only [Act.put,qA,qB,qC]
 refine wpK_v 3 rfl (fun x hx=>by obtain ⟨d0,d1⟩:=HLE.1 x hx;go_simp;try with_reducible rfl) ?_
 try simp only [Act.put,qA,qB,qC]
 refine wpK_v 4 rfl (fun x hx=>by obtain ⟨d0,d1⟩:=HLE.1 x hx;go_simp;try with_reducible rfl) ?_
 try simp only [Act.put,qA,qB,qC]
 refine wpK_v 5 rfl (fun x hx=>by obtain ⟨d0,d1⟩:=HLE.1 x hx;go_simp;try with_reducible rfl) ?_
 try simp only [Act.put,qA,qB,qC]
 refine wpK_v 8 rfl (fun x hx=>by obtain ⟨d0,d1⟩:=HLE.1 x hx;go_simp;try with_reducible rfl) ?_
 try simp only [Act.put,qA,qB,qC]
 refine qdh (f:=164) (args:=#[.int .i64 schema,.int .i64 num]) (i:=6) (by kernel_rfl) rfl (by rfl) (fun x hx=>by go_simp) (fun x hx=>(HSP.1 x).mono ?_)
 rintro e y ⟨sv,rfl,hia,hby⟩
 refine ⟨_,rfl,hby,?_⟩
 obtain ⟨sa,sc,rfl,-,hor⟩:=hia
 obtain ⟨gl,rfl,hgl1,hgl2,hwl⟩:=hor.resolve_left HNE.1
 have hb1x:Below W1.heap.size W1 x:=Below.trans (Below.drew (Below.refl _ _)) hx
 have HSY:=Sh.mk ((HS1.1.below hb1x).add hby hwl hgl1)
 obtain ⟨m,hm⟩:∃ m,m=ls.length:=⟨_,rfl⟩
 have HML:=Sh.mk hm
 rw [<-hm] at hsl ⊢
 clear hx hby hor hgl1 hgl2 hwl hb1x HLE HS1 hm HSP
 try simp only [Act.put,qA,qB,qC]
 refine qiz (i:=7) (v:=.int .i64 m) rfl (by kernel_rfl) (by kernel_rfl) (by kernel_rfl) (by kernel_rfl) (fun _ _ _ h=>h) (by rfl) ?hy7 ?rest7
 case hy7=>(intro x hx;go_simp;try with_reducible rfl)
 try simp only [Act.put,qA,qB,qC]
 refine qmb (by kernel_rfl) ?_ _
 intro z hz
 replace HSY:=Sh.mk (HSY.1.below hz)
 clear hz
 go_wp2_with fail
 go_loopw [18] (fun iv wr=>∃ (j:Nat) (lc:Option Addr) (cp:Nat),iv = .int .i64 j/\j<=m/\Sh (SS w0 wr ((gl,ics ls)::(rb,[.string path,.int .i64 num])::L) B (some ⟨g,0,none⟩) n cap (rs.set k (⟨{ r.nd with pieces:=r.nd.pieces++newP gr (ls.take j) },lc,cp⟩:NR)))) (fun iv _=>m - (intOf iv).toNat)
 case atStart=>exact ⟨0,r.loc,r.cap,rfl,Nat.zero_le _,⟨by
  have:(⟨{ r.nd with pieces:=r.nd.pieces++newP gr (ls.take 0) },r.loc,r.cap⟩:NR)=r:=by simp [newP]
  rw [this,HRK.1]
  exact HSY.1⟩⟩
 case round =>
  clear HSY
  obtain ⟨j,lc,cp,rfl,hj,hS⟩:=hrel
  obtain ⟨wo,rfl⟩:∃ wo,wo=wr:=⟨_,rfl⟩
  obtain ⟨ps,hps⟩:∃ ps,ps=r.nd.pieces++newP gr (ls.take j):=⟨_,rfl⟩
  have HPS:=Sh.mk hps
  have hpsl:ps.length=r.nd.pieces.length+j:=by rw [hps,List.length_append,qeh,List.length_take];have:=HML.1;omega
  rw [<-hps] at hS
  clear hps
  have hk2:(rs.set k (⟨{ r.nd with pieces:=ps },lc,cp⟩:NR))[k]?=some (⟨{ r.nd with pieces:=ps },lc,cp⟩:NR):=List.getElem?_set_self hkr
  by_cases hlt:j<m
  case pos =>
   have hjl:j<ls.length:=by have:=HML.1;omega
   have k0:(0:Int)<=(j:Int):=by omega
   have k1:(j:Int)<(m:Int):=by omega
   have hnt:=qmv gr ls j hjl
   obtain ⟨lj,hlj⟩:∃ lj,lj=ls[j]:=⟨_,rfl⟩
   have e0:=((hS.1.mb.at 0 rfl).1.2 j (.int .i64 lj) (by rw [hlj];simp [ics,hjl])).1
   rw [<-hlj] at hnt
   have HNT:Sh (r.nd.pieces++newP gr (ls.take (j+1))=ps++[(⟨gr+j,lj⟩:PM)]):=⟨by rw [hnt,<-List.append_assoc,<-HPS.1]⟩
   obtain ⟨c7,f7⟩:=hS.1.cell hk2 7 _ rfl
   dsimp only at c7
   have hrow:=hS.1.nb.rows _ (List.mem_of_getElem? hk2)
   dsimp only at hrow
   obtain ⟨pl,hpl9⟩:∃ pl,pl=ps.length:=⟨_,rfl⟩
   rw [<-hpl9] at c7 hrow hpsl
   have HPL:=Sh.mk hpl9
   have hwr:IntKind.i64.wrap (gr+(j:Int))=gr+(j:Int):=IntWalk.i64_in _ ⟨by omega,by omega⟩
   have hBW:B<=wo.heap.size:=by have:=hS.1.nb.own.lt g rfl;omega
   have hplb:pl<=2000:=by omega
   clear hlj hnt hpl9 hpsl
   go_wp2_with (at_builtin;refine wpList_append_lies _ rfl _ _ 85 rfl B 138 j0 _ 2 16 Tryz.underlying85 hjn hy0 hy1 hy2 rfl (by decide) (.slice lc pl cp) pl (pcs ps) rfl (hrow.alloc _) ⟨wo.heap.size,0,none⟩ 1 1 [.int .i64 (gr+j),.int .i64 lj] rfl rfl (World.news_of_block (cs:=#[.int .i64 (gr+j),.int .i64 lj]) (t:=138) (fr:=(0,0)) (heap_alloc_new wo _)) ?c2 (by decide) ?c4 ?c5 ?c6 (wo.heap.size+1) (by simp) ?_)
   case c2=>simp [Value.oneCell']
   case c4=>unfold maxLen;omega
   case c5=>omega
   case c6=>first | omega | (simp;omega)
   intro gg cap1 w5 hown1 hgrow hat hlt'
   have HG:=Sh.mk (hS.1.grow (r:=(⟨{ r.nd with pieces:=ps },lc,cp⟩:NR)) (new:=⟨gr+j,lj⟩) hk2 ((Below.refl _ _).alloc (Nat.le_refl _) _) (by rw [<-HPL.1];exact hgrow) (by rw [<-HPL.1];exact hown1) (by rw [<-HPL.1];exact hat.imp id (fun e=>by omega)))
   rw [<-HPL.1] at HG
   have HN2:Sh ((⟨{ r.nd with pieces:=ps++[(⟨gr+j,lj⟩:PM)] },some ⟨gg,0,none⟩,cap1⟩:NR)=⟨{ r.nd with pieces:=r.nd.pieces++newP gr (ls.take (j+1)) },some ⟨gg,0,none⟩,cap1⟩):=⟨by rw [HNT.1]⟩
   have nb1:(Value.slice lc pl cp).ownBlock ≠ some g:=fun e=>by
    obtain ⟨c1,e1⟩:=qau hrow e
    obtain ⟨c2,e2⟩:=qau hS.1.nb.own (show (Value.slice (some ⟨g,0,none⟩) n cap).ownBlock=some g from rfl)
    rw [e1] at e2
    simp at e2
   have lg:g<wo.heap.size:=hS.1.nb.row_lt ⟨g,0,none⟩ rfl
   have hal:=(hS.1.below ((Below.refl _ _).alloc (Nat.le_refl _) (.cells #[.int .i64 (gr+j),.int .i64 lj] 138))).cell hk2 7 _ rfl
   have vc1:=(hgrow.cell_far ⟨g,k*9+7,none⟩ (by simp;omega) (Ne.symm nb1)).trans hal.1
   have vf1:=(hgrow.frozen_far ⟨g,k*9+7,none⟩ (by simp;omega) (Ne.symm nb1)).trans hal.2
   clear hown1 hgrow hat hlt' hal c7 f7 hrow
   go_wp2_with fail
   go_roundw
   case rel =>
    refine ⟨j+1,some ⟨gg,0,none⟩,cap1,by go_num,by omega,⟨?_⟩⟩
    have h9:=HG.1
    rw [List.set_set,HN2.1] at h9
    exact h9
   case measure=>simp [intOf];omega
  case neg =>
   have k1:¬ (j:Int)<(m:Int):=by omega
   have hall:ls.take j=ls:=List.take_of_length_le (by have:=HML.1;omega)
   have HPA:Sh (ps=r.nd.pieces++newP gr ls):=⟨by rw [HPS.1,hall]⟩
   have hw9:IntKind.i64.wrap (ln+num)=ln+num:=IntWalk.i64_in _ ⟨by omega,by omega⟩
   clear hall
   go_upto_region 6 with fail
   have HLE:Sh (∀ x,Later wo.drew x->x.cell? ⟨g,k*9+6,none⟩=some (.int .i64 ln)/\x.cell? ⟨rb,1,none⟩=some (.int .i64 num)):=⟨fun x hx=>by
    have S:=hS.1.below (Below.trans (Below.drew (Below.refl _ _)) hx)
    exact ⟨by rw [HLN.1];exact (S.cell hk2 6 _ rfl).1,((S.mb.at 1 rfl).1.2 1 _ rfl).1⟩⟩
   refine qas 9 (by kernel_rfl) ?_
   refine wpK_v 0 rfl (fun x hx=>by obtain ⟨d0,d1⟩:=HLE.1 x hx;go_simp;try with_reducible rfl) ?_
   try simp only [Act.put,qA,qB,qC]
   refine wpK_v 1 rfl (fun x hx=>by obtain ⟨d0,d1⟩:=HLE.1 x hx;go_simp;try with_reducible rfl) ?_
   try simp only [Act.put,qA,qB,qC]
   refine wpK_v 2 rfl (fun x hx=>by obtain ⟨d0,d1⟩:=HLE.1 x hx;go_simp;try with_reducible rfl) ?_
   try simp only [Act.put,qA,qB,qC]
   refine wpK_v 3 rfl (fun x hx=>by obtain ⟨d0,d1⟩:=HLE.1 x hx;go_simp;try with_reducible rfl) ?_
   try simp only [Act.put,qA,qB,qC]
   refine wpK_v 4 rfl (fun x hx=>by obtain ⟨d0,d1⟩:=HLE.1 x hx;go_simp;try with_reducible rfl) ?_
   try simp only [Act.put,qA,qB,qC]
   refine wpK_v 5 rfl (fun x hx=>by obtain ⟨d0,d1⟩:=HLE.1 x hx;go_simp;try with_reducible rfl) ?_
   try simp only [Act.put,qA,qB,qC]
   refine wpK_v 6 rfl (fun x hx=>by obtain ⟨d0,d1⟩:=HLE.1 x hx;go_simp;try with_reducible rfl) ?_
   try simp only [Act.put,qA,qB,qC]
   refine wpK_v 7 rfl (fun x hx=>by obtain ⟨d0,d1⟩:=HLE.1 x hx;go_simp;try with_reducible rfl) ?_
   try simp only [Act.put,qA,qB,qC]
   refine wpK_v 8 rfl (fun x hx=>by obtain ⟨d0,d1⟩:=HLE.1 x hx;go_simp;try with_reducible rfl) ?_
   try simp only [Act.put,qA,qB,qC]
   refine qcn (by kernel_rfl) ?_
   intro y hy
   have HSY:=Sh.mk (hS.1.below (Below.trans (Below.drew (Below.refl _ _)) hy))
   obtain ⟨c6,f6⟩:=HSY.1.cell hk2 6 _ rfl
   dsimp only at c6
   refine qdz (y:=y.setCell ⟨g,k*9+6,none⟩ (.int .i64 (ln+num))) (i:=9) (by kernel_rfl) rfl (by rfl) (by go_simp) (by kernel_rfl) ?_
   have HZ:=Sh.mk (HSY.1.put hk2 6 (by omega) (.int .i64 (ln+num)) (⟨{ r.nd with pieces:=ps,len:=ln+num },lc,cp⟩:NR) rfl rfl rfl rfl).less.less
   have HZ2:Sh ((⟨{ r.nd with pieces:=ps,len:=ln+num },lc,cp⟩:NR)=⟨{ r.nd with pieces:=r.nd.pieces++newP gr ls,len:=r.nd.len+num },lc,cp⟩):=⟨by rw [HPA.1,HLN.1]⟩
   clear c6 f6 hy HLE HSY hS
   simp only [Act.put]
   go_wp2_with fail
   refine qac (fun w9=>SS w0 w9 L B (some ⟨g,0,none⟩) n cap (rs.set k (⟨{ r.nd with pieces:=r.nd.pieces++newP gr ls,len:=r.nd.len+num },lc,cp⟩:NR))) (by have h9:=HZ.1;rw [List.set_set,HZ2.1] at h9;exact h9) ?_
   intro w9 h9
   refine bodyPost_end (v:=.tuple #[]) (by simp [results,Tryz.results245,go_sem]) rfl ⟨rfl,lc,cp,h9⟩
theorem own_take {L:List Value} (h:w.ownsRow B t sz (.slice (some ⟨g,0,none⟩) n cap) n L) (hm:m<=n):w.ownsRow B t sz (.slice (some ⟨g,0,none⟩) m cap) m (L.take (m*sz)):=by
 obtain ⟨hL,h2⟩:=h
 rcases h2 with ⟨h',_⟩ | ⟨g',cap',cur,h',hb,hg,hnc,hcm,hcs,htake⟩
 ·simp at h'
 ·simp only [Value.slice.injEq,Option.some.injEq,Addr.mk.injEq,and_true,true_and] at h'
  obtain ⟨rfl,rfl⟩:=h'
  have hle:m*sz<=n*sz:=Nat.mul_le_mul_right _ hm
  refine ⟨by rw [List.length_take,hL];omega,.inr ⟨g,cap,cur,rfl,hb,hg,by omega,hcm,hcs,?_⟩⟩
  rw [<-htake,List.take_take,Nat.min_eq_left hle]
theorem qpu {L:List Value}:∀ (vs:List Value) (o:Nat) (w:World),w.ownsRow B t sz (.slice (some ⟨g,0,none⟩) m cap) m L->L.length<=o->(w.setCells g o vs).ownsRow B t sz (.slice (some ⟨g,0,none⟩) m cap) m L/\w.grownBy (w.setCells g o vs) (some g)
 | [],o,w,h,_=>⟨h,⟨rfl,rfl,rfl,Nat.le_refl _,fun _ _ _=>rfl⟩⟩
 | v::vs,o,w,h,ho=>by
  have h1:=(h.stored o v).1
  rw [List.set_eq_of_length_le ho] at h1
  obtain ⟨h2,h3⟩:=qpu vs (o+1) _ h1 (by omega)
  exact ⟨h2,qdj (qak w g o v) h3⟩
def putN (y:World) (g o:Nat) (r:NR):World:=(((((((((y.setCell ⟨g,o,none⟩ (.int .i64 r.nd.id)).setCell ⟨g,o+1,none⟩ (.int .i64 r.nd.parent)).setCell ⟨g,o+2,none⟩ (.string r.nd.name)).setCell ⟨g,o+3,none⟩ (.bool r.nd.dir)).setCell ⟨g,o+4,none⟩ (.int .i64 r.nd.schema)).setCell ⟨g,o+5,none⟩ (.int .i64 r.nd.quota)).setCell ⟨g,o+6,none⟩ (.int .i64 r.nd.len)).setCell ⟨g,o+7,none⟩ (.slice r.loc r.nd.pieces.length r.cap)).setCell ⟨g,o+8,none⟩ (.int .i64 r.nd.writer))
theorem qkk (y:World) (g o:Nat) (r:NR):y.grownBy (putN y g o r) (some g):=by
 have st:=fun (w:World) i v=>qak w g i v
 exact qdj (qdj (qdj (qdj (qdj (qdj (qdj (qdj (st _ o _) (st _ (o+1) _)) (st _ (o+2) _)) (st _ (o+3) _)) (st _ (o+4) _)) (st _ (o+5) _)) (st _ (o+6) _)) (st _ (o+7) _)) (st _ (o+8) _)
theorem putN_own {y:World} (h:y.ownsRow B 87 9 (.slice (some ⟨g,0,none⟩) n cap) n (ncs xs)) (i:Nat) (hi:i<xs.length) (r:NR):(putN y g (i*9) r).ownsRow B 87 9 (.slice (some ⟨g,0,none⟩) n cap) n (ncs (xs.set i r)):=by
 have step:∀ (w:World) (q s:NR) (f:Nat) (hf:f<9) (v:Value),w.ownsRow B 87 9 (.slice (some ⟨g,0,none⟩) n cap) n (ncs (xs.set i q))->qaj s=(qaj q).set f v->(w.setCell ⟨g,i*9+f,none⟩ v).ownsRow B 87 9 (.slice (some ⟨g,0,none⟩) n cap) n (ncs (xs.set i s)):=fun w q s f hf v ho hc=>by
  have h1:=(ho.stored (i*9+f) v).1
  have hl:i<(xs.set i q).length:=by rw [List.length_set];exact hi
  rw [qhf (xs.set i q) i hl f hf v s (by rw [List.getElem_set_self];exact hc),List.set_set] at h1
  exact h1
 obtain ⟨q,hq⟩:∃ q,q=xs[i]:=⟨_,rfl⟩
 have h0:y.ownsRow B 87 9 (.slice (some ⟨g,0,none⟩) n cap) n (ncs (xs.set i q)):=by rw [hq,List.set_getElem_self];exact h
 obtain ⟨⟨a0,a1,a2,a3,a4,a5,a6,a7,a8⟩,al,ac⟩:=q
 obtain ⟨⟨b0,b1,b2,b3,b4,b5,b6,b7,b8⟩,bl,bc⟩:=r
 have s0:=step _ _ ⟨⟨b0,a1,a2,a3,a4,a5,a6,a7,a8⟩,al,ac⟩ 0 (by omega) (.int .i64 b0) h0 rfl
 have s1:=step _ _ ⟨⟨b0,b1,a2,a3,a4,a5,a6,a7,a8⟩,al,ac⟩ 1 (by omega) (.int .i64 b1) s0 rfl
 have s2:=step _ _ ⟨⟨b0,b1,b2,a3,a4,a5,a6,a7,a8⟩,al,ac⟩ 2 (by omega) (.string b2) s1 rfl
 have s3:=step _ _ ⟨⟨b0,b1,b2,b3,a4,a5,a6,a7,a8⟩,al,ac⟩ 3 (by omega) (.bool b3) s2 rfl
 have s4:=step _ _ ⟨⟨b0,b1,b2,b3,b4,a5,a6,a7,a8⟩,al,ac⟩ 4 (by omega) (.int .i64 b4) s3 rfl
 have s5:=step _ _ ⟨⟨b0,b1,b2,b3,b4,b5,a6,a7,a8⟩,al,ac⟩ 5 (by omega) (.int .i64 b5) s4 rfl
 have s6:=step _ _ ⟨⟨b0,b1,b2,b3,b4,b5,b6,a7,a8⟩,al,ac⟩ 6 (by omega) (.int .i64 b6) s5 rfl
 have s7:=step _ _ ⟨⟨b0,b1,b2,b3,b4,b5,b6,b7,a8⟩,bl,bc⟩ 7 (by omega) (.slice bl b7.length bc) s6 rfl
 exact step _ _ ⟨⟨b0,b1,b2,b3,b4,b5,b6,b7,b8⟩,bl,bc⟩ 8 (by omega) (.int .i64 b8) s7 rfl
structure DF (w0 W:World) (L:List (Nat × List Value)) (B g n cap:Nat) (p:NM->Bool) (rs xs:List NR) (i j:Nat):Prop where
 mb:MB w0 W L
 own:W.ownsRow B 87 9 (.slice (some ⟨g,0,none⟩) n cap) n (ncs xs)
 len:xs.length=n
 rows:∀ r ∈ rs,W.ownsRow B 138 2 (.slice r.loc r.nd.pieces.length r.cap) r.nd.pieces.length (pcs r.nd.pieces)
 pre:xs.take i=(rs.take j).filter (fun r=>!p r.nd)
 low:i<j
 rest:∀ t,j<=t->xs[t]?=rs[t]?
theorem DF.below {p:NM->Bool} (h:DF w0 W L B g n cap p rs xs i j) (hb:Below W.heap.size W W'):DF w0 W' L B g n cap p rs xs i j:=by
 have hg:W.grownBy W' none:=⟨hb.os,hb.tape,hb.output,hb.size,fun k hk _=>hb.block k hk⟩
 exact ⟨h.mb.below hb,h.own.kept hg (Classical.em _),h.len,fun r hr=>(h.rows r hr).kept hg (Classical.em _),h.pre,h.low,h.rest⟩
theorem qmw {B g n c m cc:Nat} {L M:List Value} {loc:Option Addr} (hown:W.ownsRow B 87 9 (.slice (some ⟨g,0,none⟩) n c) n L) (h:W.ownsRow B 138 2 (.slice loc m cc) m M) (hg:W.grownBy W' (some g)):W'.ownsRow B 138 2 (.slice loc m cc) m M:=by
 refine h.kept hg ?_
 cases e:(Value.slice loc m cc).ownBlock with
 | none=>exact .inl rfl
 | some q =>
  refine .inr fun e2=>?_
  obtain ⟨c1,h1⟩:=qau h e
  obtain ⟨c2,h2⟩:=qau hown (show (Value.slice (some ⟨g,0,none⟩) n c).ownBlock=some g from rfl)
  cases e2
  rw [h1] at h2
  simp at h2
theorem qim {p:NM->Bool} (hj:j<rs.length):(rs.take (j+1)).filter (fun r=>!p r.nd)=(rs.take j).filter (fun r=>!p r.nd)++if p rs[j].nd=true then [] else [rs[j]]:=by
 rw [List.take_succ_eq_append_getElem hj,List.filter_append]
 congr 1
 cases h:p rs[j].nd <;> simp [h]
theorem DF.skip {p:NM->Bool} (h:DF w0 W L B g n cap p rs xs i j) (hj:j<rs.length) (hp:p rs[j].nd=true):DF w0 W L B g n cap p rs xs i (j+1):=
 ⟨h.mb,h.own,h.len,h.rows,by rw [h.pre,qim hj,if_pos hp,List.append_nil],by have:=h.low;omega,fun t ht=>h.rest t (by omega)⟩
theorem DF.move {p:NM->Bool} (h:DF w0 W L B g n cap p rs xs i j) (hj:j<rs.length) (hn:rs.length=n) (hp:p rs[j].nd=false) (hg:∀ q ∈ L,g ≠ q.1) (hlo:w0.heap.size<=B):DF w0 (putN W g (i*9) rs[j]) L B g n cap p rs (xs.set i rs[j]) (i+1) (j+1):=by
 have hil:i<xs.length:=by have:=h.low;have:=h.len;omega
 have hgB:B<=g:=(h.own.lt g rfl).1
 refine ⟨h.mb.far (qkk W g (i*9) rs[j]) (fun q hq e=>hg q hq (by cases e;rfl)) (fun q e=>by cases e;omega),putN_own h.own i hil rs[j],by rw [List.length_set];exact h.len,fun r hr=>qmw h.own (h.rows r hr) (qkk W g (i*9) rs[j]),?_,by have:=h.low;omega,fun t ht=>?_⟩
 ·rw [qim hj,if_neg (by simp [hp]),<-h.pre]
  rw [List.take_succ_eq_append_getElem (by rw [List.length_set];exact hil),List.getElem_set_self,List.take_set_of_le (Nat.le_refl _)]
 ·rw [List.getElem?_set_ne (by have:=h.low;omega)]
  exact h.rest t (by omega)
theorem DF.start {p:NM->Bool} (h:SS w0 W L B (some ⟨g,0,none⟩) n cap rs) (hi:(nds rs).findIdx? p=some i):DF w0 W L B g n cap p rs rs i (i+1):=by
 obtain ⟨hi',h1,h2⟩:=List.findIdx?_eq_some_iff_getElem.1 hi
 have hir:i<rs.length:=by rw [qaf] at hi';exact hi'
 have hpi:p rs[i].nd=true:=by simpa [nds] using h1
 have hlow:∀ r ∈ rs.take i,(!p r.nd)=true:=fun r hr=>by
  obtain ⟨j,hj,e⟩:=List.getElem_of_mem hr
  rw [List.length_take] at hj
  rw [List.getElem_take] at e
  have:=h2 j (by omega)
  rw [<-e]
  simpa [nds] using this
 refine ⟨h.mb,by have:=h.nb.own;rw [h.len] at this;exact this,h.len,h.nb.rows,?_,by omega,fun t _=>rfl⟩
 rw [qim hir,if_pos hpi,List.append_nil,List.filter_eq_self.2 hlow]
theorem DF.fin {p:NM->Bool} (h:DF w0 W L B g n cap p rs xs i j) (hj:n<=j) (hs:rs.length=n) (hin:i<=n) (hap:rs.Pairwise fun r s=>r.loc ≠ none->s.loc ≠ none->r.loc ≠ s.loc) (hq:∀ q ∈ L,g ≠ q.1/\∀ r ∈ rs,∀ a,r.loc=some a->a.block ≠ q.1) (hlo:w0.heap.size<=B) (vs:List Value) :
  SS w0 (W.setCells g (i*9) vs) L B (some ⟨g,0,none⟩) i cap (rs.filter (fun r=>!p r.nd)):=by
 have hgB:B<=g:=(h.own.lt g rfl).1
 have hpre:=h.pre
 rw [List.take_of_length_le (by omega:rs.length<=j)] at hpre
 have hlen:(rs.filter (fun r=>!p r.nd)).length=i:=by rw [<-hpre,List.length_take,h.len];omega
 have ho:=own_take h.own hin
 have hc:(ncs xs).take (i*9)=ncs (rs.filter (fun r=>!p r.nd)):=by
  rw [<-hpre]
  have e:xs=xs.take i++xs.drop i:=(List.take_append_drop _ _).symm
  have e2:ncs xs=ncs (xs.take i)++ncs (xs.drop i):=(congrArg ncs e).trans List.flatMap_append
  rw [e2]
  have hl:(ncs (xs.take i)).length=i*9:=by rw [qdt,List.length_take,h.len,Nat.min_eq_left hin]
  rw [<-hl,List.take_left]
 rw [hc] at ho
 obtain ⟨o1,o2⟩:=qpu vs (i*9) W ho (by rw [qdt,hlen];exact Nat.le_refl _)
 refine ⟨h.mb.far o2 (fun q hq' e=>(hq q hq').1 (by cases e;rfl)) (fun q e=>by cases e;omega),⟨by rw [hlen];exact o1,fun r hr=>qmw h.own (h.rows r (List.mem_filter.1 hr).1) o2,List.Pairwise.filter _ hap⟩,hlen,fun q hq'=>⟨fun a e=>by cases e;exact (hq q hq').1,fun r hr a e=>(hq q hq').2 r (List.mem_filter.1 hr).1 a e⟩,hlo⟩
theorem zero_one (m:Nat):∀ v ∈ (Builtin.zeroCells #[.int .i64 0,.int .i64 0,.string ⟨#[]⟩,.bool false,.int .i64 0,.int .i64 0,.int .i64 0,.slice none 0 0,.int .i64 0] m).toList,v.oneCell'=true:=by
 intro v hv
 unfold Builtin.zeroCells at hv
 simp only [Array.toList_map,List.mem_map] at hv
 obtain ⟨i,-,rfl⟩:=hv
 have:i % 9<9:=Nat.mod_lt _ (by decide)
 generalize i % 9=q at this
 show (#[Value.int .i64 0,.int .i64 0,.string ⟨#[]⟩,.bool false,.int .i64 0,.int .i64 0,.int .i64 0,.slice none 0 0,.int .i64 0][q]!).oneCell'=true
 match q,this with
 | 0,_=>rfl
 | 1,_=>rfl
 | 2,_=>rfl
 | 3,_=>rfl
 | 4,_=>rfl
 | 5,_=>rfl
 | 6,_=>rfl
 | 7,_=>rfl
 | 8,_=>rfl
abbrev zeroN:Array Value:=#[.int .i64 0,.int .i64 0,.string ⟨#[]⟩,.bool false,.int .i64 0,.int .i64 0,.int .i64 0,.slice none 0 0,.int .i64 0]
theorem qmx (m:Nat):(Builtin.zeroCells zeroN m).toList.length=m*9:=by
 unfold Builtin.zeroCells
 simp
theorem clear_run (g o m c:Nat) (W:World) (hc:∀ j,j<(m+1)*9->(W.cell? ⟨g,o+j,none⟩).isSome=true/\W.frozen? ⟨g,o+j,none⟩=false):Sem.run Tryz.prog (Builtin.clear_ #[40] 0 #[.slice (some ⟨g,o,none⟩) (m+1) c]) W = .ok (.tuple #[]) (W.setCells g o (Builtin.zeroCells zeroN (m+1)).toList):=by
 have hz:∀ w,Sem.run Tryz.prog (zeroValue 87) w = .ok (.agg zeroN) w:=fun w=>by kernel_rfl
 have hs:=run_storeCells_cells (P:=Tryz.prog) g o (Builtin.zeroCells zeroN (m+1)).toList 0 W (fun j hj=>by rw [Nat.add_zero];exact (hc j (by rw [<-qmx];exact hj)).1) (fun j hj=>by rw [Nat.add_zero];exact (hc j (by rw [<-qmx];exact hj)).2) (zero_one (m+1))
 unfold Builtin.clear_
 simp [go_sem,hz,Value.cells,hs]
theorem qkl (h:SS w0 W L B (some ⟨g,0,none⟩) n cap rs) (p:NM->Bool) (cv:Value) (hn:n<=1000)
  (HC:∀ W',MB w0 W' L->∀ r:NR,Calls Tryz.prog 242 #[nv r,cv] W' fun e w'=>e = .returned (.bool (p r.nd))/\Below W'.heap.size W' w') :
  Calls Tryz.prog 241 #[.slice (some ⟨g,0,none⟩) n cap,.func (.func 242) #[] #[cv]] W fun e w'=>∃ m,e = .returned (.slice (some ⟨g,0,none⟩) m cap)/\SS w0 w' L B (some ⟨g,0,none⟩) m cap (rs.filter (fun r=>!p r.nd)):=by
 have hsee:TR W (some ⟨g,0,none⟩) rs 0 W.heap.size:=⟨by
  have ho:=h.nb.own
  rw [h.len] at ho
  exact qfm ho (fun hp e=>by have e2:(ncs rs).length=rs.length*9:=qdt rs;rw [h.len,e] at e2;change 0<(ncs rs).length at hp;omega),fun r hr=>qfm (h.nb.rows r hr) (fun hp e=>by have e2:(pcs r.nd.pieces).length=r.nd.pieces.length*2:=qhr _;rw [e] at e2;change 0<(pcs r.nd.pieces).length at hp;omega)⟩
 have HIX:=Sh.mk (indexGone p cv (cap:=cap) hsee h.len.symm (by omega) (fun W' hb r _=>HC W' (h.mb.below hb) r))
 have HS:=Sh.mk h
 have HCC:=Sh.mk HC
 clear h HC hsee
 go_enter Tryz.func241,Tryz.ntmps241
 cases ho:(nds rs).findIdx? p with
 | none =>
  have hix:idxI p (nds rs) = -1:=by unfold idxI;rw [ho]
  rw [hix] at HIX
  have HO:=Sh.mk ho
  clear hix ho
  go_wp2_with (go_at_call 122;refine HIX.1.mono ?_;rintro e w1 ⟨rfl,hb1⟩;have HB1:=Sh.mk hb1;clear hb1)
  go_ret
  refine ⟨n,rfl,?_⟩
  have hall:rs.filter (fun r=>!p r.nd)=rs:=List.filter_eq_self.2 fun r hr=>by
   have:=List.findIdx?_eq_none_iff.1 HO.1 r.nd (List.mem_map.2 ⟨r,hr,rfl⟩)
   simp [this]
  rw [hall]
  exact HS.1.below HB1.1
 | some i0 =>
  have hix:idxI p (nds rs)=(i0:Int):=by unfold idxI;rw [ho]
  rw [hix] at HIX
  have HO:=Sh.mk ho
  clear hix ho
  have i1:((i0:Int) == -1)=false:=by simp
  have hi0:i0<n:=by
   obtain ⟨hi',-⟩:=List.findIdx?_eq_some_iff_getElem.1 HO.1
   rw [qaf,HS.1.len] at hi'
   exact hi'
  have hw1:IntKind.i64.wrap ((i0:Int)+1)=((i0+1:Nat):Int):=by rw [IntWalk.i64_in _ ⟨by omega,by omega⟩];omega
  go_wp2_with (go_at_call 122;refine HIX.1.mono ?_;rintro e w1 ⟨rfl,hb1⟩;have HD1:=Sh.mk (DF.start (HS.1.below hb1) HO.1);clear hb1)
  go_loopw [5,6] (fun iv jv wr=>∃ (i j:Nat) (xs:List NR),iv = .int .i64 i/\jv = .int .i64 j/\j<=n/\i<j/\Sh (DF w0 wr L B g n cap p rs xs i j)) (fun _ jv _=>n - (intOf jv).toNat)
  case atStart=>exact ⟨i0,i0+1,rs,rfl,rfl,by omega,by omega,HD1⟩
  case round =>
   clear HD1
   obtain ⟨i,j,xs,rfl,rfl,hj,hij,HD⟩:=hrel
   obtain ⟨wo,rfl⟩:∃ wo,wo=wr:=⟨_,rfl⟩
   have hrn:rs.length=n:=HS.1.len
   have HRN:=Sh.mk hrn
   by_cases hlt:j<n
   case pos =>
    have hjr:j<rs.length:=by omega
    have hjx:j<xs.length:=by rw [HD.1.len];exact hlt
    have hxj:xs[j]=rs[j]:=by
     have:=HD.1.rest j (Nat.le_refl _)
     rw [List.getElem?_eq_getElem hjx,List.getElem?_eq_getElem hjr] at this
     exact Option.some.inj this
    have j0:(0:Int)<=(j:Int):=by omega
    have j1:(j:Int)<(n:Int):=by omega
    have k0:(0:Int)<=(i:Int):=by omega
    have k1:(i:Int)<(n:Int):=by omega
    have hcell:∀ f v,(qaj xs[j])[f]?=some v->wo.cell? ⟨g,j*9+f,none⟩=some v:=fun f v hv=>by
     have hf:f<9:=by have:=(List.getElem?_eq_some_iff.1 hv).1;rw [qao] at this;exact this
     exact ((qar HD.1.own).2 _ _ ((flat_get qao xs j hjx f hf).trans hv)).1
    rw [hxj] at hcell
    obtain ⟨r,hrj⟩:∃ r,r=rs[j]:=⟨_,rfl⟩
    rw [<-hrj] at hcell
    have HRJ:=Sh.mk hrj
    have c0:=hcell 0 _ rfl
    have c1:=hcell 1 _ rfl
    have c2:=hcell 2 _ rfl
    have c3:=hcell 3 _ rfl
    have c4:=hcell 4 _ rfl
    have c5:=hcell 5 _ rfl
    have c6:=hcell 6 _ rfl
    have c7:=hcell 7 _ rfl
    have c8:=hcell 8 _ rfl
    rw [Nat.add_zero] at c0
    have lg:g<wo.heap.size:=(HD.1.own.lt g rfl).2
    clear hcell hxj hrj hrn
    go_upto_region 8 with fail
    obtain ⟨vb,hvb⟩:∃ vb,vb=wo.heap.size:=⟨_,rfl⟩
    refine qaa (fun V=>DF w0 V L B g n cap p rs xs i j/\WCells V vb (qaj r)/\g<vb) ⟨HD.1.below ((Below.refl _ _).alloc (Nat.le_refl _) _),by rw [hvb];exact qad wo #[.int .i64 r.nd.id,.int .i64 r.nd.parent,.string r.nd.name,.bool r.nd.dir,.int .i64 r.nd.schema,.int .i64 r.nd.quota,.int .i64 r.nd.len,.slice r.loc r.nd.pieces.length r.cap,.int .i64 r.nd.writer] 87,by rw [hvb];exact lg⟩ ?_
    rintro V ⟨hV,hvx,hgv⟩
    have HV:=Sh.mk hV
    have HX:=Sh.mk hvx
    rw [<-hvb]
    clear hV hvx hvb c0 c1 c2 c3 c4 c5 c6 c7 c8 lg HD
    have HCK:=Sh.mk (HCC.1 V HV.1.mb r)
    have y0:=(HX.1.2 0 _ rfl).1
    have y1:=(HX.1.2 1 _ rfl).1
    have y2:=(HX.1.2 2 _ rfl).1
    have y3:=(HX.1.2 3 _ rfl).1
    have y4:=(HX.1.2 4 _ rfl).1
    have y5:=(HX.1.2 5 _ rfl).1
    have y6:=(HX.1.2 6 _ rfl).1
    have y7:=(HX.1.2 7 _ rfl).1
    have y8:=(HX.1.2 8 _ rfl).1
    obtain ⟨q,hq⟩:∃ q,q=p r.nd:=⟨_,rfl⟩
    rw [<-hq] at HCK
    have HQ:=Sh.mk hq
    clear hq
    cases q with
    | true =>
     go_wp2_with (go_at_call 242;refine HCK.1.mono ?_;rintro e w5 ⟨rfl,hb5⟩;have HV5:=Sh.mk (HV.1.below hb5);clear hb5 y0 y1 y2 y3 y4 y5 y6 y7 y8)
     go_roundw
     case rel=>exact ⟨i,j+1,xs,rfl,by go_num,by omega,by omega,⟨HV5.1.skip hjr (by rw [<-HRJ.1,<-HQ.1])⟩⟩
     case measure=>simp [intOf];omega
    | false =>
     go_upto_region 9 with (go_at_call 242;refine HCK.1.mono ?_;rintro e w5 ⟨rfl,hb5⟩;have HV5:=Sh.mk (HV.1.below hb5);have HX5:=Sh.mk (HX.1.grow hb5);clear hb5 y0 y1 y2 y3 y4 y5 y6 y7 y8)
     have hii:i<xs.length:=by rw [HV5.1.len];omega
     have hcel:∀ f,f<9->∃ u,w5.cell? ⟨g,i*9+f,none⟩=some u/\w5.frozen? ⟨g,i*9+f,none⟩=false:=fun f hf=>by
      have hv:(qaj xs[i])[f]?=some ((qaj xs[i])[f]'(by rw [qao];exact hf)):=List.getElem?_eq_getElem _
      have:=(qar HV5.1.own).2 _ _ ((flat_get qao xs i hii f hf).trans hv)
      exact ⟨_,this.1,this.2⟩
     obtain ⟨u0,z0,zf0⟩:=hcel 0 (by omega)
     obtain ⟨u1,z1,zf1⟩:=hcel 1 (by omega)
     obtain ⟨u2,z2,zf2⟩:=hcel 2 (by omega)
     obtain ⟨u3,z3,zf3⟩:=hcel 3 (by omega)
     obtain ⟨u4,z4,zf4⟩:=hcel 4 (by omega)
     obtain ⟨u5,z5,zf5⟩:=hcel 5 (by omega)
     obtain ⟨u6,z6,zf6⟩:=hcel 6 (by omega)
     obtain ⟨u7,z7,zf7⟩:=hcel 7 (by omega)
     obtain ⟨u8,z8,zf8⟩:=hcel 8 (by omega)
     rw [Nat.add_zero] at z0 zf0
     have y0:=(HX5.1.2 0 _ rfl).1
     have y1:=(HX5.1.2 1 _ rfl).1
     have y2:=(HX5.1.2 2 _ rfl).1
     have y3:=(HX5.1.2 3 _ rfl).1
     have y4:=(HX5.1.2 4 _ rfl).1
     have y5:=(HX5.1.2 5 _ rfl).1
     have y6:=(HX5.1.2 6 _ rfl).1
     have y7:=(HX5.1.2 7 _ rfl).1
     have y8:=(HX5.1.2 8 _ rfl).1
     have ne1:¬ (vb=g):=by omega
     have ne2:¬ (g=vb):=by omega
     clear hcel hii
     go_upto_region 10 with fail
     refine qaa (fun V6=>DF w0 V6 L B g n cap p rs (xs.set i r) (i+1) (j+1)) (by
      have h9:=HV5.1.move hjr HRN.1 (by rw [<-HRJ.1,<-HQ.1]) (fun q hq=>(HS.1.ap q hq).1 ⟨g,0,none⟩ rfl) HS.1.lo
      rw [<-HRJ.1] at h9
      exact h9) ?_
     intro V6 hV6
     have HV6:=Sh.mk hV6
     clear hV6
     go_wp2_with fail
     go_roundw
     case rel=>exact ⟨i+1,j+1,xs.set i r,by go_num,by go_num,by omega,by omega,HV6⟩
     case measure=>simp [intOf];omega
   case neg =>
    have j1:¬ (j:Int)<(n:Int):=by omega
    have hin:i<=n:=by omega
    have k0:(0:Int)<=(i:Int):=by omega
    have k1:(i:Int)<=(n:Int):=by omega
    have hcap:n<=cap:=by
     rcases HD.1.own.2 with ⟨h',_⟩ | ⟨g',cap',cur,h',_,_,hnc,_⟩
     ·simp at h'
     ·simp only [Value.slice.injEq] at h'
      omega
    have hnc:(n:Int)<=(cap:Int):=by omega
    have hkc:(i:Int)<=(cap:Int):=by omega
    obtain ⟨m',hm'⟩:∃ m',n - i=m'+1:=⟨n - i - 1,by omega⟩
    have HCL:=Sh.mk (clear_run g (i*9) m' (cap - i) wo (fun q hq=>by
     have hlt9:i*9+q<(ncs xs).length:=by rw [qdt,HD.1.len];omega
     have:=(qar HD.1.own).2 (i*9+q) _ (List.getElem?_eq_getElem hlt9)
     exact ⟨by rw [this.1];rfl,this.2⟩))
    rw [<-hm'] at HCL
    have hcl:=HCL.1
    have HF:=Sh.mk (HD.1.fin (by omega) HRN.1 hin HS.1.nb.apart (fun q hq=>⟨(HS.1.ap q hq).1 ⟨g,0,none⟩ rfl,(HS.1.ap q hq).2⟩) HS.1.lo (Builtin.zeroCells zeroN (n - i)).toList)
    clear hm' hrn HCL
    go_wp2_with fail
    go_ret
    exact ⟨i,rfl,HF.1⟩
theorem all_fit (es:List EM):∀ {s:TM × Int},NFit s.1->NFit (es.foldl stepX s).1:=by
 induction es with
 | nil=>intro s h;exact h
 | cons e es ih =>
  intro s h
  refine ih ?_
  unfold stepX
  split
  ·exact qmu h e s.2
  ·exact h
end Go.Proofs.YtoglebfiobofoaaGreatDoor
