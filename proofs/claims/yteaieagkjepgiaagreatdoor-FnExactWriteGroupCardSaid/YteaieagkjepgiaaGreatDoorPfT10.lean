/- Texts of ours, laid one behind the other: TDrawP, TSpQ, TSpS. -/
import Derived.Test.YteaieagkjepgiaaGreatDoorPfT9
import Derived.OwnWalk
import Derived.OpenShut
set_option linter.unusedVariables false
set_option linter.unusedSimpArgs false
/- . -/
namespace Go.Proofs.YteaieagkjepgiaaGreatDoorT
set_option maxRecDepth 100000
open Go.RowKit
theorem infoInt:(Tw.prog.info? 3).map (fun i=>(i.zero,i.size,i.bytes))=some (some (.int .i64 0),1,8):=by kernel_rfl
def iv (l:List Int):List Value:=l.map fun x=>.int .i64 x
end Go.Proofs.YteaieagkjepgiaaGreatDoorT
/- . -/
namespace Go.Proofs.YteaieagkjepgiaaGreatDoorT
set_option maxRecDepth 100000
open Go.RowKit BigFrame
attribute [local go_sem ↓] Go.wp_at_zero Go.wp_at_succ
def ivN (L:List Nat):List Value:=L.map fun (x:Nat)=>Value.int .i64 (x:Int)
theorem ivN_len (L:List Nat):(ivN L).length=L.length:=by simp [ivN]
theorem ivN_at (L:List Nat) (i:Nat) (h:i<L.length):(ivN L)[i]?=some (.int .i64 (L.getD i 0:Nat)):=by simp [ivN,List.getD,h]
theorem ivN_swap (L:List Nat) (k:Nat):((ivN L).set k (.int .i64 (L.getD (k - 1) 0:Nat))).set (k - 1) (.int .i64 (L.getD k 0:Nat))=ivN (swapL L k):=by
 unfold ivN swapL
 rw [List.map_set,List.map_set]
def OrdPost (hs:List HM) (w:World) (e:Ending) (w':World):Prop:=∃ (v:Value) (L:List Nat),e = .returned v/\w'.ownsRow w.heap.size 3 1 v L.length (ivN L)/\OrdI hs L/\Below w.heap.size w w'
set_option maxRecDepth 100000 in
set_option maxHeartbeats 4000000 in
theorem specOrder (a:Option Addr) (rs:List HoR) (cap:Nat) (w:World) (hr:HsRow w a rs) (hl:rs.length<=1048576) :
  Calls Tw.prog 35 #[.slice a rs.length cap] w fun e w'=>OrdPost (hms rs) w e w':=by
 obtain ⟨i0,hin,hz0,hz1,hz2⟩:=info_parts infoInt
 obtain ⟨n,hn⟩:∃ n,n=rs.length:=⟨_,rfl⟩
 have HN:=Shut.mk hn
 rw [<-hn] at hl ⊢
 have HR:=Shut.mk hr
 obtain ⟨hs,hhs⟩:∃ q,q=hms rs:=⟨_,rfl⟩
 rw [<-hhs]
 have HHS:Shut (hs.length=n/\∀ k (hk:k<rs.length),hs.getD k default=rs[k].h):=⟨⟨by rw [hhs,hms_len,hn],fun k hk=>by rw [hhs];simp [hms,List.getD,hk]⟩⟩
 clear hr hn hhs
 go_enter Tw.func35,Tw.ntmps35
 have HO0:=Shut.mk (OwS.new (ty:=3) (sz:=1) (SL.start w))
 go_upto_region 3 with fail
 go_loopw [3,4] (fun v i9 wr=>∃ (k m:Nat) (L:List Nat),i9 = .int .i64 k/\k<=n/\m<=k/\Shut (L=upTo hs k/\m=L.length)/\Shut (OwS w wr [] 3 1 v m (ivN L))) (fun _ i9 _=>n - (intOf i9).toNat)
 case atStart=>exact ⟨0,0,[],rfl,Nat.zero_le _,Nat.le_refl _,⟨rfl,rfl⟩,HO0⟩
 case round =>
  clear HO0
  obtain ⟨k,m,L,rfl,hk,hmk,HL,HW⟩:=hrel
  obtain ⟨av,cv,rfl⟩:=own_row_slice HW.out.own
  by_cases hlt:k<n
  ·have hkr:k<rs.length:=by rw [<-HN.out];exact hlt
   obtain ⟨b,off,r,rfl,hre,lb,hc⟩:=hs_at HR.out HW.out.sl.bel hkr
   obtain ⟨d0,d1,d2,d3⟩:=hc wr (Below.refl _ _)
   have k0:(0:Int)<=(k:Int):=by omega
   have k1:(k:Int)<(n:Int):=by omega
   have HST:Shut (upTo hs (k+1)=upTo hs k++if r.h.up=true then [k] else []):=⟨by rw [upTo_step,HHS.out.2 k hkr,<-hre]⟩
   clear hc hre d3
   cases hup:r.h.up with
   | false =>
    rw [hup] at d1 HST
    go_wp2_with fail
    go_roundw
    case rel=>exact ⟨k+1,m,L,by go_num,by omega,by omega,⟨by rw [HST.out];simpa using HL.out⟩,HW⟩
    case measure=>simp [intOf];omega
   | true =>
    rw [hup] at d1 HST
    have hown:=HW.out.own
    have hbs:=HW.out.sl.bel.size
    go_wp2_with (at_builtin;refine wpList_append_own_at _ rfl _ _ 39 rfl w.heap.size 3 i0 (.int .i64 0) 1 8 Tw.underlying39 hin hz0 hz1 hz2 rfl (by decide) _ _ _ rfl (hown.alloc _) ⟨wr.heap.size,0,none⟩ 1 1 [.int .i64 (k:Int)] rfl rfl (cell_one_new _ _ _) ?c2 ?c3 ?c4 ?c5 ?_)
    case c2=>simp [Value.oneCell']
    case c3=>unfold maxLen;omega
    case c4=>omega
    case c5=>first | omega | (simp;omega)
    intro v9 w9 ho hg _ hat
    have HL9:=Shut.mk (HW.out.more ((Below.refl _ _).alloc (Nat.le_refl _) _) ho hg (by simpa using hat))
    clear ho hg hat hown hbs
    go_wp2_with fail
    go_roundw
    case rel=>exact ⟨k+1,m+1,L++[k],by go_num,by omega,by omega,⟨by rw [HST.out];simp only [if_true];rw [<-HL.out.1],by rw [List.length_append,<-HL.out.2];rfl⟩,⟨by have q:=HL9.out;rw [show ivN (L++[k])=ivN L++[.int .i64 (k:Int)] by simp [ivN]];exact q⟩⟩
    case measure=>simp [intOf];omega
  ·obtain rfl:n=k:=by omega
   have HUP:Shut (L.Pairwise (· < ·)/\∀ x ∈ L,x<n):=⟨by rw [HL.out.1];exact ⟨upTo_up hs n,upTo_lt hs n⟩⟩
   obtain ⟨U,hU⟩:∃ U,U=L:=⟨_,rfl⟩
   have HUU:Shut (U.Pairwise (· < ·)/\(∀ x ∈ U,x<n)/\U.length=m/\U=upTo hs n):=⟨by rw [hU];exact ⟨HUP.out.1,HUP.out.2,HL.out.2.symm,HL.out.1⟩⟩
   rw [<-hU] at HW
   clear HL HUP hU hlt
   go_upto_region 8 with fail
   go_loopw [5] (fun i9 wr=>∃ (i:Nat) (L:List Nat),i9 = .int .i64 i/\1<=i/\i<=m+1/\Shut (Sd (pk hs) L (min i m)/\L.Perm U/\(∀ t,i<=t->L[t]?=U[t]?))/\Shut (wr.ownsRow w.heap.size 3 1 (.slice av m cv) m (ivN L)/\Below w.heap.size w wr)) (fun i9 _=>m+1 - (intOf i9).toNat)
   case atStart=>exact ⟨1,U,rfl,Nat.le_refl _,by omega,⟨fun a b hab hb=>by omega,List.Perm.refl _,fun t _=>rfl⟩,⟨HW.out.own,HW.out.sl.bel⟩⟩
   case round =>
    clear HW
    obtain ⟨i,L,rfl,hi1,him,HS,HO⟩:=hrel
    by_cases hlt:i<m
    ·have i1:(i:Int)<(m:Int):=by omega
     have HLU:Shut (L.length=m/\∀ x ∈ L,x<n):=⟨⟨by rw [HS.out.2.1.length_eq];exact HUU.out.2.2.1,fun x hx=>HUU.out.2.1 x (HS.out.2.1.mem_iff.1 hx)⟩⟩
     have HMV:Shut (Mv (pk hs) L i i):=⟨mv_start (by have q:=HS.out.1;rw [Nat.min_eq_left (by omega)] at q;exact q) HS.out.2.1 HUU.out.1 HS.out.2.2 (by have:=HLU.out.1;omega)⟩
     go_upto_region 11 with fail
     go_loopw [6] (fun i9 wr=>∃ (k:Nat) (L:List Nat),i9 = .int .i64 k/\k<=i/\Shut ((Mv (pk hs) L i k\/Sd (pk hs) L (i+1))/\L.Perm U/\(∀ t,i+1<=t->L[t]?=U[t]?))/\Shut (wr.ownsRow w.heap.size 3 1 (.slice av m cv) m (ivN L)/\Below w.heap.size w wr)) (fun i9 _=>(intOf i9).toNat)
     case atStart=>exact ⟨i,L,rfl,Nat.le_refl _,⟨.inl HMV.out,HS.out.2.1,fun t ht=>HS.out.2.2 t (by omega)⟩,HO⟩
     case round =>
      clear HO HS HLU HMV
      obtain ⟨k,L,rfl,hki,HS,HO⟩:=hrel
      by_cases hk0:0<k
      ·have hlen:L.length=m:=by rw [HS.out.2.1.length_eq];exact HUU.out.2.2.1
       have hkl:k<L.length:=by omega
       have hk1l:k - 1<L.length:=by omega
       have hin9:∀ t,t<L.length->L.getD t 0<n:=fun t ht=>HUU.out.2.1 _ (HS.out.2.1.mem_iff.1 (by rw [List.getD,List.getElem?_eq_getElem ht];exact List.getElem_mem ht))
       obtain ⟨x,hx⟩:∃ x,x=L.getD (k - 1) 0:=⟨_,rfl⟩
       obtain ⟨z,hz⟩:∃ z,z=L.getD k 0:=⟨_,rfl⟩
       have hxn:x<rs.length:=by rw [hx,<-HN.out];exact hin9 _ hk1l
       have hzn:z<rs.length:=by rw [hz,<-HN.out];exact hin9 _ hkl
       obtain ⟨gv,rfl⟩:∃ gv,av=some ⟨gv,0,none⟩:=by
        rcases HO.out.1.2 with ⟨_,e⟩ | ⟨gv,_,_,e,_⟩
        ·omega
        ·simp only [Value.slice.injEq] at e;exact ⟨gv,e.1⟩
       have hw0:=own_wcells HO.out.1
       obtain ⟨e0,-⟩:=hw0.2 (k - 1) _ (ivN_at L (k - 1) hk1l)
       obtain ⟨e1,-⟩:=hw0.2 k _ (ivN_at L k hkl)
       rw [<-hx] at e0
       rw [<-hz] at e1
       obtain ⟨b,off,r1,rfl,hr1,lb,hc1⟩:=hs_at HR.out HO.out.2 hxn
       obtain ⟨b',off',r2,e',hr2,lb',hc2⟩:=hs_at HR.out HO.out.2 hzn
       simp only [Option.some.injEq,Addr.mk.injEq,and_true] at e'
       obtain ⟨rfl,rfl⟩:=e'
       have HGT:Shut (gt2 (pk hs) x z=(decide (r2.h.us.length<r1.h.us.length)||(r1.h.us.length==r2.h.us.length&&decide (r2.h.id<r1.h.id)))):=⟨by
        unfold gt2 pk
        rw [HHS.out.2 x hxn,HHS.out.2 z hzn,<-hr1,<-hr2]
        rfl⟩
       have HYES:Shut (gt2 (pk hs) x z=true->Mv (pk hs) (swapL L k) i (k - 1)):=⟨fun h=>by
        rw [hx,hz] at h
        rcases HS.out.1 with q | q
        ·exact q.swap hk0 hki (by omega) h
        ·have:=q.quiet hk0 hki
         rw [h] at this
         cases this⟩
       have HNOT:Shut (gt2 (pk hs) x z=false->Sd (pk hs) L (i+1)):=⟨fun h=>by
        rw [hx,hz] at h
        rcases HS.out.1 with q | q
        ·exact q.stop hk0 hki h
        ·exact q⟩
       obtain ⟨⟨id1,up1,us1⟩,lo1,c1⟩:=r1
       obtain ⟨⟨id2,up2,us2⟩,lo2,c2⟩:=r2
       dsimp only at *
       have HLa0:=Shut.mk (fun W=>specLoadOf ⟨id1,up1,us1⟩ lo1 c1 W)
       have HLb0:=Shut.mk (fun W=>specLoadOf ⟨id2,up2,us2⟩ lo2 c2 W)
       dsimp only [hov] at HLa0 HLb0
       obtain ⟨l1,hl1⟩:∃ q,q=us1.length:=⟨_,rfl⟩
       obtain ⟨l2,hl2⟩:∃ q,q=us2.length:=⟨_,rfl⟩
       rw [<-hl1] at hc1 HLa0 HGT
       rw [<-hl2] at hc2 HLb0 HGT
       have HC1:=Shut.mk hc1
       have HC2:=Shut.mk hc2
       obtain ⟨d0,d1,d2,-⟩:=hc1 wr (Below.refl _ _)
       have HWO0:Shut (OwS w wr [] 3 1 (.slice (some ⟨gv,0,none⟩) m cv) m (ivN L)):=⟨⟨⟨HO.out.2,fun s h=>(by cases h),.nil⟩,HO.out.1,fun q e s h=>(by cases h)⟩⟩
       have HWO1:=Shut.mk (HWO0.out.box #[.int .i64 id1,.bool up1,.slice lo1 l1 c1] 45)
       have k0:(0:Int)<=(k:Int):=by omega
       have k1:(k:Int)<(m:Int):=by omega
       have km:(k:Int) - 1=((k - 1:Nat):Int):=by omega
       have k2:(0:Int)<=((k - 1:Nat):Int):=by omega
       have k3:((k - 1:Nat):Int)<(m:Int):=by omega
       have x0:(0:Int)<=(x:Int):=by omega
       have x1:(x:Int)<(n:Int):=by have:=HN.out;omega
       have z0:(0:Int)<=(z:Int):=by omega
       have z1:(z:Int)<(n:Int):=by have:=HN.out;omega
       have hkp:(0:Int)<(k:Int):=by omega
       have hkp2:0<k:=hk0
       have HX9:=Shut.mk hx
       have HZ9:=Shut.mk hz
       clear hw0 hc1 hc2 hr1 hr2 hl1 hl2 hin9 hx hz
       obtain ⟨bb1,hbb1⟩:∃ q,q=wr.heap.size:=⟨_,rfl⟩
       rw [<-hbb1] at HWO1
       go_upto_region 14 with fail
       refine wp_shade (fun W=>OwS w W [bxS bb1 [.int .i64 id1,.bool up1,.slice lo1 l1 c1]] 3 1 (.slice (some ⟨gv,0,none⟩) m cv) m (ivN L)/\Below wr.heap.size wr W) ⟨HWO1.out,(Below.refl _ _).alloc (Nat.le_refl _) _⟩ ?_
       intro W14 hW
       rw [<-hbb1]
       have HWO1:=Shut.mk hW.1
       have HBW:=Shut.mk hW.2
       clear hW HWO0 hbb1 d0 d1 d2 e0 e1
       obtain ⟨d0,d1,d2,-⟩:=HC2.out W14 HBW.out
       have hw1:=own_wcells HWO1.out.own
       obtain ⟨e1,-⟩:=hw1.2 k _ (ivN_at L k hkl)
       rw [<-HZ9.out] at e1
       clear hw1
       have HWO2:=Shut.mk (HWO1.out.box #[.int .i64 id2,.bool up2,.slice lo2 l2 c2] 45)
       obtain ⟨bb2,hbb2⟩:∃ q,q=W14.heap.size:=⟨_,rfl⟩
       rw [<-hbb2] at HWO2
       go_upto_region 15 with fail
       refine wp_shade (fun W=>OwS w W [bxS bb2 [.int .i64 id2,.bool up2,.slice lo2 l2 c2],bxS bb1 [.int .i64 id1,.bool up1,.slice lo1 l1 c1]] 3 1 (.slice (some ⟨gv,0,none⟩) m cv) m (ivN L)) HWO2.out ?_
       intro W15 hW
       rw [<-hbb2]
       have HW2:=Shut.mk hW
       have HWO:=Shut.mk hW.tail.tail
       clear hW HWO1 HWO2 hbb2 d0 d1 d2 e1 HBW
       have lb1:bb1<W15.heap.size:=(HW2.out.sl.at 1 rfl).1
       have lb2:bb2<W15.heap.size:=(HW2.out.sl.at 0 rfl).1
       have p0:∀ X:Grow W15,X.val.cell? ⟨bb1,0,none⟩=some (.int .i64 id1):=fun X=>X.cell (HW2.out.sl.bx 1 rfl 0 _ rfl).1 lb1
       have p1:∀ X:Grow W15,X.val.cell? ⟨bb1,1,none⟩=some (.bool up1):=fun X=>X.cell (HW2.out.sl.bx 1 rfl 1 _ rfl).1 lb1
       have p2:∀ X:Grow W15,X.val.cell? ⟨bb1,2,none⟩=some (.slice lo1 l1 c1):=fun X=>X.cell (HW2.out.sl.bx 1 rfl 2 _ rfl).1 lb1
       have q0:∀ X:Grow W15,X.val.cell? ⟨bb2,0,none⟩=some (.int .i64 id2):=fun X=>X.cell (HW2.out.sl.bx 0 rfl 0 _ rfl).1 lb2
       have q1:∀ X:Grow W15,X.val.cell? ⟨bb2,1,none⟩=some (.bool up2):=fun X=>X.cell (HW2.out.sl.bx 0 rfl 1 _ rfl).1 lb2
       have q2:∀ X:Grow W15,X.val.cell? ⟨bb2,2,none⟩=some (.slice lo2 l2 c2):=fun X=>X.cell (HW2.out.sl.bx 0 rfl 2 _ rfl).1 lb2
       have HLa:=Shut.mk (fun X=>calls_grow (w:=W15) (fun W' (_:Below W15.heap.size W15 W')=>HLa0.out W') X)
       have HLb:=Shut.mk (fun X=>calls_grow (w:=W15) (fun W' (_:Below W15.heap.size W15 W')=>HLb0.out W') X)
       by_cases g1:l2<l1
       case pos =>
        have g1d:decide ((l2:Int)<(l1:Int))=true:=by simp;omega
        have g1e:decide (l2<l1)=true:=by simpa using g1
        have HG:Shut (gt2 (pk hs) x z=true):=⟨by rw [HGT.out,g1e];rfl⟩
        refine wp_region_grow (by kernel_rfl) (by kernel_rfl) ?_
        repeat (go_big_quiet_step (first | (go_at_call 64;first | with_reducible exact HLa.out _ | with_reducible exact HLb.out _)))
        refine wpQuiet_nil ?_
        rintro _ ⟨X,rfl⟩
        have HOX:=Shut.mk (HWO.out.below X.bel)
        clear p0 p1 p2 q0 q1 q2
        obtain ⟨X,hX⟩:=X
        dsimp only at *
        have hwX:=own_wcells HOX.out.own
        obtain ⟨f0,f0z⟩:=hwX.2 (k - 1) _ (ivN_at L (k - 1) hk1l)
        obtain ⟨f1,f1z⟩:=hwX.2 k _ (ivN_at L k hkl)
        rw [<-HX9.out] at f0
        rw [<-HZ9.out] at f1
        have hwY:=hwX.set k (.int .i64 (x:Int)) (by rw [ivN_len];exact hkl)
        obtain ⟨y0,y0z⟩:=hwY.2 (k - 1) (.int .i64 (x:Int)) (by rw [List.getElem?_set_ne (by omega),ivN_at L (k - 1) hk1l,<-HX9.out])
        have HNO:=Shut.mk (((HOX.out.own.stored k (.int .i64 (x:Int))).1.stored (k - 1) (.int .i64 (z:Int))).1)
        rw [HX9.out,HZ9.out,ivN_swap,<-HX9.out,<-HZ9.out] at HNO
        have HBO:Shut (Below w.heap.size w ((X.setCell ⟨gv,k,none⟩ (.int .i64 (x:Int))).setCell ⟨gv,k - 1,none⟩ (.int .i64 (z:Int)))):=⟨by
         have hg:=(HOX.out.own.lt gv rfl).1
         exact (HOX.out.sl.bel.grown (gb_set' X gv k _) HOX.out.sl.bel.size (fun q e=>by cases e;exact hg)).grown (gb_set' _ gv (k - 1) _) (by have:=HOX.out.sl.bel.size;simp [World.setCell];exact this) (fun q e=>by cases e;exact hg)⟩
        clear hwX hwY
        go_wp2_with fail
        go_roundw
        case rel=>exact ⟨k - 1,swapL L k,congrArg (Value.int .i64) (by omega),by omega,⟨.inl (HYES.out HG.out),(swapL_perm L k hk0 hkl).trans HS.out.2.1,fun t ht=>by
         have q:=swapL_at L k hk0 hkl t
         have e1:(swapL L k)[t]?=L[t]?:=by
          unfold swapL
          rw [List.getElem?_set_ne (by omega),List.getElem?_set_ne (by omega)]
         rw [e1]
         exact HS.out.2.2 t ht⟩,⟨HNO.out,HBO.out⟩⟩
        case measure=>simp [intOf];omega
       have g1d:decide ((l2:Int)<(l1:Int))=false:=by simp;omega
       have g1e:decide (l2<l1)=false:=by simpa using g1
       by_cases g2:l1=l2
       case neg =>
        have g2d:((l1:Int)==(l2:Int))=false:=by simp;omega
        have g2e:(l1==l2)=false:=by simpa using g2
        have HG:Shut (gt2 (pk hs) x z=false):=⟨by rw [HGT.out,g1e,g2e];rfl⟩
        clear g2
        refine wp_region_grow (by kernel_rfl) (by kernel_rfl) ?_
        repeat (go_big_quiet_step (first | (go_at_call 64;first | with_reducible exact HLa.out _ | with_reducible exact HLb.out _)))
        refine wpQuiet_nil ?_
        rintro _ ⟨X,rfl⟩
        have HOX:=Shut.mk (HWO.out.below X.bel)
        clear p0 p1 p2 q0 q1 q2
        go_wp2_with fail
        go_roundw
        case rel=>exact ⟨k - 1,L,congrArg (Value.int .i64) (by omega),by omega,⟨.inr (HNOT.out HG.out),HS.out.2⟩,⟨HOX.out.own,HOX.out.sl.bel⟩⟩
        case measure=>simp [intOf];omega
       have g2d:((l1:Int)==(l2:Int))=true:=by simp;omega
       have g2e:(l1==l2)=true:=by simpa using g2
       clear g2
       by_cases g3:id2<id1
       case pos =>
        have g3d:decide (id2<id1)=true:=by simpa using g3
        have HG:Shut (gt2 (pk hs) x z=true):=⟨by rw [HGT.out,g1e,g2e,g3d];rfl⟩
        refine wp_region_grow (by kernel_rfl) (by kernel_rfl) ?_
        repeat (go_big_quiet_step (first | (go_at_call 64;first | with_reducible exact HLa.out _ | with_reducible exact HLb.out _)))
        refine wpQuiet_nil ?_
        rintro _ ⟨X,rfl⟩
        have HOX:=Shut.mk (HWO.out.below X.bel)
        clear p0 p1 p2 q0 q1 q2
        obtain ⟨X,hX⟩:=X
        dsimp only at *
        have hwX:=own_wcells HOX.out.own
        obtain ⟨f0,f0z⟩:=hwX.2 (k - 1) _ (ivN_at L (k - 1) hk1l)
        obtain ⟨f1,f1z⟩:=hwX.2 k _ (ivN_at L k hkl)
        rw [<-HX9.out] at f0
        rw [<-HZ9.out] at f1
        have hwY:=hwX.set k (.int .i64 (x:Int)) (by rw [ivN_len];exact hkl)
        obtain ⟨y0,y0z⟩:=hwY.2 (k - 1) (.int .i64 (x:Int)) (by rw [List.getElem?_set_ne (by omega),ivN_at L (k - 1) hk1l,<-HX9.out])
        have HNO:=Shut.mk (((HOX.out.own.stored k (.int .i64 (x:Int))).1.stored (k - 1) (.int .i64 (z:Int))).1)
        rw [HX9.out,HZ9.out,ivN_swap,<-HX9.out,<-HZ9.out] at HNO
        have HBO:Shut (Below w.heap.size w ((X.setCell ⟨gv,k,none⟩ (.int .i64 (x:Int))).setCell ⟨gv,k - 1,none⟩ (.int .i64 (z:Int)))):=⟨by
         have hg:=(HOX.out.own.lt gv rfl).1
         exact (HOX.out.sl.bel.grown (gb_set' X gv k _) HOX.out.sl.bel.size (fun q e=>by cases e;exact hg)).grown (gb_set' _ gv (k - 1) _) (by have:=HOX.out.sl.bel.size;simp [World.setCell];exact this) (fun q e=>by cases e;exact hg)⟩
        clear hwX hwY
        go_wp2_with fail
        go_roundw
        case rel=>exact ⟨k - 1,swapL L k,congrArg (Value.int .i64) (by omega),by omega,⟨.inl (HYES.out HG.out),(swapL_perm L k hk0 hkl).trans HS.out.2.1,fun t ht=>by
         have q:=swapL_at L k hk0 hkl t
         have e1:(swapL L k)[t]?=L[t]?:=by
          unfold swapL
          rw [List.getElem?_set_ne (by omega),List.getElem?_set_ne (by omega)]
         rw [e1]
         exact HS.out.2.2 t ht⟩,⟨HNO.out,HBO.out⟩⟩
        case measure=>simp [intOf];omega
       have g3d:decide (id2<id1)=false:=by simpa using g3
       have HG:Shut (gt2 (pk hs) x z=false):=⟨by rw [HGT.out,g1e,g2e,g3d];rfl⟩
       refine wp_region_grow (by kernel_rfl) (by kernel_rfl) ?_
       repeat (go_big_quiet_step (first | (go_at_call 64;first | with_reducible exact HLa.out _ | with_reducible exact HLb.out _)))
       refine wpQuiet_nil ?_
       rintro _ ⟨X,rfl⟩
       have HOX:=Shut.mk (HWO.out.below X.bel)
       clear p0 p1 p2 q0 q1 q2
       go_wp2_with fail
       go_roundw
       case rel=>exact ⟨k - 1,L,congrArg (Value.int .i64) (by omega),by omega,⟨.inr (HNOT.out HG.out),HS.out.2⟩,⟨HOX.out.own,HOX.out.sl.bel⟩⟩
       case measure=>simp [intOf];omega
      ·obtain rfl:k=0:=by omega
       have HSD:Shut (Sd (pk hs) L (i+1)):=⟨by rcases HS.out.1 with h | h;exact h.done;exact h⟩
       go_wp2_with fail
       go_roundw
       case rel=>exact ⟨i+1,L,by go_num,by omega,by omega,⟨by rw [Nat.min_eq_left (by omega)];exact HSD.out,HS.out.2.1,HS.out.2.2⟩,HO⟩
       case measure=>simp [intOf];omega
    ·have HE:Shut (OrdI hs L/\L.length=m):=⟨by
      have q:=HS.out.1
      rw [Nat.min_eq_right (by omega)] at q
      have hlm:L.length=m:=by rw [HS.out.2.1.length_eq];exact HUU.out.2.2.1
      refine ⟨⟨by rw [hlm];exact q,?_⟩,hlm⟩
      have e:=HUU.out.2.2.2
      rw [HHS.out.1,<-e]
      exact HS.out.2.1⟩
     go_wp2_with fail
     go_ret
     exact ⟨_,L,rfl,by rw [HE.out.2];exact HO.out.1,HE.out.1,HO.out.2⟩
end Go.Proofs.YteaieagkjepgiaaGreatDoorT
/- . -/
namespace Go.Proofs.YteaieagkjepgiaaGreatDoorT
set_option maxRecDepth 100000
open Go.RowKit BigFrame
attribute [local go_sem ↓] Go.wp_at_zero Go.wp_at_succ
theorem ord_pairs {hs:List HM} {L:List Nat} (h:OrdI hs L):L.map (pk hs)=ordP hs:=by
 refine ordP_of ?_ ?_
 ·rw [<-upTo_pairs]
  exact h.2.map _
 ·rw [List.pairwise_map]
  refine List.pairwise_iff_getElem.2 fun a b ha hb hab=>?_
  have q:=h.1 a b hab hb
  have e1:L.getD a 0=L[a]:=by simp [List.getD,ha]
  have e2:L.getD b 0=L[b]:=by simp [List.getD,hb]
  rw [e1,e2] at q
  rw [plLe_iff]
  unfold lt3 at q
  omega
theorem own_base {W:World} {B B' t sz n:Nat} {v:Value} {L:List Value} (h:W.ownsRow B t sz v n L) (hB:B'<=B):W.ownsRow B' t sz v n L:=
 ⟨h.1,h.2.imp id fun ⟨g,c,cur,e,hb,r⟩=>⟨g,c,cur,e,Nat.le_trans hB hb,r⟩⟩
def PlcPost (r:List Int × Bool) (w:World) (e:Ending) (w':World):Prop:=∃ v,e = .returned (.tuple #[v,.bool r.2])/\w'.ownsRow w.heap.size 3 1 v r.1.length (iv r.1)/\Below w.heap.size w w'
set_option maxRecDepth 100000 in
set_option maxHeartbeats 2000000 in
theorem specPlaceGroup (a:Option Addr) (rs:List HoR) (cap:Nat) (x:Int) (w:World) (hr:HsRow w a rs) (hl:rs.length<=1048576) :
  Calls Tw.prog 14 #[.slice a rs.length cap,.int .i64 x] w fun e w'=>PlcPost (plcX (hms rs) x) w e w':=by
 obtain ⟨i0,hin,hz0,hz1,hz2⟩:=info_parts infoInt
 have HOD:=Shut.mk (specOrder a rs cap w hr hl)
 obtain ⟨n,hn⟩:∃ n,n=rs.length:=⟨_,rfl⟩
 have HN:=Shut.mk hn
 have HR:=Shut.mk hr
 obtain ⟨hs,hhs⟩:∃ q,q=hms rs:=⟨_,rfl⟩
 rw [<-hhs]
 rw [<-hhs] at HOD
 have HHS:Shut (hs.length=n/\∀ k (hk:k<rs.length),hs.getD k default=rs[k].h):=⟨⟨by rw [hhs,hms_len,hn],fun k hk=>by rw [hhs];simp [hms,List.getD,hk]⟩⟩
 rw [<-hn] at HOD hl ⊢
 clear hr hn hhs
 obtain ⟨RR,hRR⟩:∃ q,q=plcX hs x:=⟨_,rfl⟩
 rw [<-hRR]
 have HQ:=Shut.mk hRR
 clear hRR
 go_enter Tw.func14,Tw.ntmps14
 go_upto_region 2 with (go_at_call 35;refine HOD.out.mono ?_;rintro e w1 ⟨v1,L,rfl,ho1,hod,hb1⟩;have HO1:=Shut.mk (And.intro ho1 hb1);have HI:=Shut.mk hod;clear ho1 hb1 hod)
 obtain ⟨av,cv,rfl⟩:=own_row_slice HO1.out.1
 obtain ⟨m,hm⟩:∃ m,m=L.length:=⟨_,rfl⟩
 rw [<-hm]
 rw [<-hm] at HO1
 have HM:=Shut.mk hm
 have HLN:Shut (∀ y ∈ L,y<n):=⟨fun y hy=>by have q:=upTo_lt hs hs.length y (HI.out.2.mem_iff.1 hy);rw [HHS.out.1] at q;exact q⟩
 have hmn:m<=n:=by
  have q:=HI.out.2.length_eq
  have q2:=upTo_len hs hs.length
  have:=HHS.out.1
  omega
 have HPR:Shut (ordP hs=L.map (pk hs)/\(ordP hs).length=m):=⟨by rw [<-ord_pairs HI.out];exact ⟨rfl,by rw [List.length_map,hm]⟩⟩
 have HO2:Shut (OwS w1 (w1.alloc (.cells #[] 3)) [] 3 1 (.slice (some ⟨w1.heap.size,0,none⟩) 0 0) 0 []):=⟨OwS.new (SL.start w1)⟩
 have HBB:Shut (∀ W,Below w1.heap.size w1 W->Below w.heap.size w W):=⟨fun W h=>HO1.out.2.trans (h.mono HO1.out.2.size)⟩
 have HWS:Shut (w.heap.size<=w1.heap.size):=⟨HO1.out.2.size⟩
 have HRW:Shut (CRow w1 av (ivN L)):=⟨(FRw.of_own HO1.out.1).1.crow⟩
 clear hm
 by_cases hx0:x<0
 case pos =>
  have HE:Shut (RR=([],false)):=⟨by rw [HQ.out];unfold plcX;rw [if_neg (by omega)]⟩
  go_wp2_with fail
  go_ret2
  refine ⟨_,by rw [HE.out];rfl,by rw [HE.out];exact own_base HO2.out.own HWS.out,HBB.out _ HO2.out.sl.bel⟩
 by_cases hxm:(m:Int)<x
 case pos =>
  have HE:Shut (RR=([],false)):=⟨by rw [HQ.out];unfold plcX;rw [HPR.out.2,if_neg (by omega)]⟩
  go_wp2_with fail
  go_ret2
  refine ⟨_,by rw [HE.out];rfl,by rw [HE.out];exact own_base HO2.out.own HWS.out,HBB.out _ HO2.out.sl.bel⟩
 obtain ⟨y,rfl⟩:=Int.eq_ofNat_of_zero_le (show 0<=x by omega)
 have hym:y<=m:=by omega
 have HE:Shut (RR=(((L.take y).map fun t=>(pk hs t).2),true)):=⟨by
  rw [HQ.out]
  unfold plcX
  rw [HPR.out.2,if_pos ⟨by omega,by omega⟩,HPR.out.1,Int.toNat_natCast,<-List.map_take,List.map_map]
  rfl⟩
 have hxm2:¬ (m:Int)<(y:Int):=by omega
 clear hxm HQ
 go_upto_region 6 with fail
 go_loopw [7,8] (fun v i9 wr=>∃ (k:Nat),i9 = .int .i64 k/\k<=y/\Shut (OwS w1 wr [] 3 1 v k (iv ((L.take k).map fun t=>(pk hs t).2)))) (fun _ i9 _=>y - (intOf i9).toNat)
 case atStart=>exact ⟨0,rfl,Nat.zero_le _,HO2⟩
 case round =>
  clear HO2
  obtain ⟨k,rfl,hk,HW⟩:=hrel
  obtain ⟨av2,cv2,rfl⟩:=own_row_slice HW.out.own
  by_cases hlt:k<y
  ·have hkl:k<L.length:=by have:=HM.out;omega
   obtain ⟨b1,o1,e1,lb1,hc1⟩:=(HRW.out.stays HW.out.sl.bel) (by rw [ivN_len];omega)
   have hck:=hc1 k _ (ivN_at L k hkl)
   obtain ⟨t,ht⟩:∃ t,t=L.getD k 0:=⟨_,rfl⟩
   rw [<-ht] at hck
   have htm:t ∈ L:=by rw [ht,List.getD,List.getElem?_eq_getElem hkl];exact List.getElem_mem hkl
   have htn:t<rs.length:=by rw [<-HN.out];exact HLN.out t htm
   obtain ⟨b,off,r,e2,hre,lb,hc⟩:=hs_at HR.out (HBB.out _ HW.out.sl.bel) htn
   obtain ⟨d0,d1,d2,d3⟩:=hc wr (Below.refl _ _)
   have HNX:Shut (iv ((L.take (k+1)).map fun t=>(pk hs t).2)=iv ((L.take k).map fun t=>(pk hs t).2)++[.int .i64 r.h.id]):=⟨by
    have e3:L[k]=t:=by rw [ht,List.getD,List.getElem?_eq_getElem hkl];rfl
    have e4:(pk hs t).2=r.h.id:=by unfold pk;rw [HHS.out.2 t htn,<-hre];rfl
    rw [List.take_succ_eq_append_getElem hkl,List.map_append,e3]
    unfold iv
    rw [List.map_append]
    simp [e4]⟩
   subst e1
   subst e2
   have k0:(0:Int)<=(k:Int):=by omega
   have k1:(k:Int)<(m:Int):=by omega
   have k2:(k:Int)<(y:Int):=by omega
   have t0:(0:Int)<=(t:Int):=by omega
   have t1:(t:Int)<(n:Int):=by have:=HN.out;omega
   have hown:=HW.out.own
   have hbs:=HW.out.sl.bel.size
   clear hc1 hc hre d1 d2 d3 ht htm
   go_wp2_with (at_builtin;refine wpList_append_own_at _ rfl _ _ 39 rfl w1.heap.size 3 i0 (.int .i64 0) 1 8 Tw.underlying39 hin hz0 hz1 hz2 rfl (by decide) _ _ _ rfl (hown.alloc _) ⟨wr.heap.size,0,none⟩ 1 1 [.int .i64 r.h.id] rfl rfl (cell_one_new _ _ _) ?c2 ?c3 ?c4 ?c5 ?_)
   case c2=>simp [Value.oneCell']
   case c3=>unfold maxLen;omega
   case c4=>omega
   case c5=>first | omega | (simp;omega)
   intro v9 w9 ho hg _ hat
   have HL9:=Shut.mk (HW.out.more ((Below.refl _ _).alloc (Nat.le_refl _) _) ho hg (by simpa using hat))
   rw [<-List.map_take,<-HNX.out] at HL9
   clear ho hg hat hown hbs
   go_wp2_with fail
   go_roundw
   case rel=>exact ⟨k+1,by go_num,by omega,HL9⟩
   case measure=>simp [intOf];omega
  ·obtain rfl:y=k:=by omega
   go_wp2_with fail
   go_ret2
   refine ⟨_,by rw [HE.out];rfl,?_,HBB.out _ HW.out.sl.bel⟩
   rw [HE.out]
   have q:=HW.out.own
   have e:((L.take y).map fun t=>(pk hs t).2).length=y:=by rw [List.length_map,List.length_take];have:=HM.out;omega
   dsimp only
   rw [e]
   exact own_base q HWS.out
end Go.Proofs.YteaieagkjepgiaaGreatDoorT
