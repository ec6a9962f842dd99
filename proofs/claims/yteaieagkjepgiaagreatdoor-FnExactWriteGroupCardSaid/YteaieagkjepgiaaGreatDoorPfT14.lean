/- Texts of ours, laid one behind the other: THpC, THpE, THpG, THpD. -/
import Derived.Test.YteaieagkjepgiaaGreatDoorPfT13
import Derived.Handy
import Derived.Laws.StructEq
set_option linter.unusedVariables false
set_option linter.unusedSimpArgs false
/- . -/
namespace Go.Proofs.YteaieagkjepgiaaGreatDoorT
set_option maxRecDepth 100000
open Go.RowKit BigFrame
attribute [local go_sem ↓] Go.wp_at_zero Go.wp_at_succ
end Go.Proofs.YteaieagkjepgiaaGreatDoorT
/- . -/
namespace Go.Proofs.YteaieagkjepgiaaGreatDoorT
set_option maxRecDepth 100000
open Go.RowKit BigFrame
attribute [local go_sem ↓] Go.wp_at_zero Go.wp_at_succ
theorem implSum (t:ByteArray) (w:World) (htab:SumTab w) (hs:t.size<=1048576):Calls Tw.prog 97 #[.string t] w fun e w'=>e = .returned (.int .i64 (sumN t))/\w'=w:=by
 have h:=sumN_low t
 have HP:=Shut.mk (implSumOf t w htab hs)
 unfold u32 at HP
 rw [show (((W.sumOf t).toNat:Nat):Int)=sumN t from rfl] at HP
 generalize sumN t=q at *
 clear htab
 go_enter Tw.func97,Tw.ntmps97
 go_wp2_with fail
 refine HP.out.mono ?_
 rintro e w1 ⟨rfl,rfl⟩
 go_wp2_with fail
 go_ret
 exact ⟨rfl,rfl⟩
set_option maxRecDepth 100000 in
theorem implSummed (u:UnM) (w:World) (htab:SumTab w) (hs:u.text.size<=1048576):Calls Tw.prog 78 #[unv u] w fun e w'=>e = .returned (unv (summed u))/\Below w.heap.size w w':=by
 have HS0:=Shut.mk (((SL.start w).new #[.int .i64 u.group,.int .i64 u.index,.string u.text,.int .i64 u.sum] 49).new #[.int .i64 0,.int .i64 0,.string ⟨#[]⟩,.int .i64 0] 49)
 simp only [World.size_alloc] at HS0
 have HT:=Shut.mk (fun (W:World) (hb:Below w.heap.size w W)=>implSum u.text W (htab.stays hb) hs)
 clear htab
 obtain ⟨g,i,t,s⟩:=u
 unfold summed
 dsimp only [unv] at *
 generalize sumN t=sn at HT ⊢
 go_enter Tw.func78,Tw.ntmps78
 go_upto_region 1 with fail
 refine wp_shade (fun W=>SL w W [bxS (w.heap.size+1) [.int .i64 0,.int .i64 0,.string ⟨#[]⟩,.int .i64 0],bxS w.heap.size [.int .i64 g,.int .i64 i,.string t,.int .i64 s]]) HS0.out ?_
 intro W hW
 have H:=Shut.mk hW
 clear HS0 hW
 have x2:=(H.out.bx 1 rfl 2 _ rfl).1
 obtain ⟨y3,y3z⟩:=H.out.bx 1 rfl 3 _ rfl
 go_upto_region 2 with (go_at_call 97;refine (HT.out _ H.out.bel).mono ?_;rintro e w1 ⟨rfl,hw1⟩;subst hw1)
 have H2:=Shut.mk (H.out.put 1 rfl 3 (.int .i64 sn) (by simp))
 simp only [List.set_cons_zero,List.set_cons_succ] at H2
 refine wp_shade (fun W=>SL w W [bxS (w.heap.size+1) [.int .i64 0,.int .i64 0,.string ⟨#[]⟩,.int .i64 0],bxS w.heap.size [.int .i64 g,.int .i64 i,.string t,.int .i64 sn]]) H2.out ?_
 intro W3 hW
 clear H H2 x2 y3 y3z
 have H:=Shut.mk hW
 clear hW
 have x0:=(H.out.bx 1 rfl 0 _ rfl).1
 have x1:=(H.out.bx 1 rfl 1 _ rfl).1
 have x2:=(H.out.bx 1 rfl 2 _ rfl).1
 have x3:=(H.out.bx 1 rfl 3 _ rfl).1
 obtain ⟨r0,r0z⟩:=H.out.bx 0 rfl 0 _ rfl
 obtain ⟨r1,r1z⟩:=H.out.bx 0 rfl 1 _ rfl
 obtain ⟨r2,r2z⟩:=H.out.bx 0 rfl 2 _ rfl
 obtain ⟨r3,r3z⟩:=H.out.bx 0 rfl 3 _ rfl
 go_wp2_with fail
 have HE:=Shut.mk ((((H.out.put 0 rfl 0 (.int .i64 g) (by simp)).put 0 rfl 1 (.int .i64 i) (by simp)).put 0 rfl 2 (.string t) (by simp)).put 0 rfl 3 (.int .i64 sn) (by simp))
 exact bodyPost_ret (v:=.agg #[.int .i64 g,.int .i64 i,.string t,.int .i64 sn]) (by simp [results,Tw.results78,go_sem,r0,r1,r2,r3]) rfl ⟨rfl,HE.out.bel⟩
end Go.Proofs.YteaieagkjepgiaaGreatDoorT
/- . -/
namespace Go.Proofs.YteaieagkjepgiaaGreatDoorT
set_option maxRecDepth 100000
open Go.RowKit BigFrame
attribute [local go_sem ↓] Go.wp_at_zero Go.wp_at_succ
structure Cut (us:List UnM) (u:UnM) (p:Nat) (b:Bool):Prop where
 le:p<=us.length
 low:∀ j (hj:j<us.length),j<p->unLt us[j] u=true
 high:∀ j (hj:j<us.length),p<=j->unLt us[j] u=false
 same:b=true↔∃ h:p<us.length,unSame us[p] u=true
set_option maxRecDepth 100000 in
set_option maxHeartbeats 2000000 in
theorem searchUnit (us:List UnM) (a:Option Addr) (n cap:Nat) (u:UnM) (w:World) (hr:UnRow w a us) (hn:n=us.length) (hl:n<=9000000) (hs:UpU us) :
  Calls Tw.prog 95 #[.slice a n cap,unv u,.func (.func 94) #[] #[]] w fun e w'=>∃ (p:Nat) (b:Bool),e = .returned (.tuple #[.int .i64 p,.bool b])/\Cut us u p b/\Below w.heap.size w w':=by
 have HS0:=Shut.mk ((SL.start w).new #[.int .i64 u.group,.int .i64 u.index,.string u.text,.int .i64 u.sum] 49)
 have HR:=Shut.mk hr
 have HN:=Shut.mk hn
 have HUP:=Shut.mk hs
 clear hr hn hs
 go_enter Tw.func95,Tw.ntmps95
 go_upto_region 1 with fail
 refine wp_shade (fun W=>SL w W [bxS w.heap.size [.int .i64 u.group,.int .i64 u.index,.string u.text,.int .i64 u.sum]]) HS0.out ?_
 intro W0 hW
 have HW:=Shut.mk hW
 clear HS0 hW
 go_wp2_with fail
 go_loopw [9,10] (fun v9 v10 wr=>∃ (p q:Nat),v9 = .int .i64 p/\v10 = .int .i64 q/\p<=q/\q<=n/\Shut (∀ j (hj:j<us.length),j<p->unLt us[j] u=true)/\Shut (∀ j (hj:j<us.length),q<=j->unLt us[j] u=false)/\Shut (SL w wr [bxS w.heap.size [.int .i64 u.group,.int .i64 u.index,.string u.text,.int .i64 u.sum]])) (fun v9 v10 _=>(intOf v10).toNat - (intOf v9).toNat)
 case atStart=>exact ⟨0,n,rfl,rfl,Nat.zero_le _,Nat.le_refl _,⟨fun j _ hj=>by omega⟩,⟨fun j hj hq=>by have:=HN.out;omega⟩,HW⟩
 case round =>
  clear HW
  obtain ⟨p,q,rfl,rfl,hpq,hqn,HLO,HHI,HW⟩:=hrel
  have lq:w.heap.size<wr.heap.size:=(HW.out.at 0 rfl).1
  have g0:∀ X:Grow wr,X.val.cell? ⟨w.heap.size,0,none⟩=some (.int .i64 u.group):=fun X=>X.cell (HW.out.bx 0 rfl 0 _ rfl).1 lq
  have g1:∀ X:Grow wr,X.val.cell? ⟨w.heap.size,1,none⟩=some (.int .i64 u.index):=fun X=>X.cell (HW.out.bx 0 rfl 1 _ rfl).1 lq
  have g2:∀ X:Grow wr,X.val.cell? ⟨w.heap.size,2,none⟩=some (.string u.text):=fun X=>X.cell (HW.out.bx 0 rfl 2 _ rfl).1 lq
  have g3:∀ X:Grow wr,X.val.cell? ⟨w.heap.size,3,none⟩=some (.int .i64 u.sum):=fun X=>X.cell (HW.out.bx 0 rfl 3 _ rfl).1 lq
  have HGR:Shut (∀ X:Grow wr,SL w X.val [bxS w.heap.size [.int .i64 u.group,.int .i64 u.index,.string u.text,.int .i64 u.sum]]):=⟨fun X=>HW.out.below X.bel⟩
  have HNN:=Shut.mk HN.out
  by_cases hlt:p<q
  ·have hlt':(p:Int)<(q:Int):=by omega
   obtain ⟨h,hh⟩:∃ h,h=(p+q) / 2:=⟨_,rfl⟩
   have hhu:h<us.length:=by have:=HN.out;omega
   obtain ⟨b,off,x,rfl,hx,lb,hc⟩:=un_at HR.out HW.out.bel hhu
   have p0:∀ X:Grow wr,X.val.cell? ⟨b,off+h*4,none⟩=some (.int .i64 x.group):=fun X=>(hc X.val X.bel).1
   have p1:∀ X:Grow wr,X.val.cell? ⟨b,off+h*4+1,none⟩=some (.int .i64 x.index):=fun X=>(hc X.val X.bel).2.1
   have p2:∀ X:Grow wr,X.val.cell? ⟨b,off+h*4+2,none⟩=some (.string x.text):=fun X=>(hc X.val X.bel).2.2.1
   have p3:∀ X:Grow wr,X.val.cell? ⟨b,off+h*4+3,none⟩=some (.int .i64 x.sum):=fun X=>(hc X.val X.bel).2.2.2
   have HCM:=Shut.mk (fun X=>calls_grow (w:=wr) (fun W' (_:Below wr.heap.size wr W')=>implCmp x u W') X)
   have HNG:=Shut.mk (cmpU_neg x u)
   generalize cmpU x u=cv at HCM HNG
   have hdiv:((p:Int)+(q:Int)) / 2=(h:Int):=by omega
   have HPQ:Shut (p<=h/\h<q):=⟨by omega⟩
   have h0:(0:Int)<=(h:Int):=by omega
   have h1:(h:Int)<(n:Int):=by omega
   have HX:Shut (x=us[h]):=⟨hx⟩
   clear hc hx hh
   go_upto_region 5 with fail
   have HST:Shut (∀ j (hj:j<us.length) k (hk:k<us.length),j<k->unLt us[j] us[k]=true):=⟨fun j hj k hk h=>List.pairwise_iff_getElem.1 HUP.out j k hj hk h⟩
   by_cases hcv:cv<0
   ·have hx:=HNG.out.1 hcv
    have HL2:Shut (∀ j (hj:j<us.length),j<h+1->unLt us[j] u=true):=⟨fun j hj hjh=>by
     rcases Nat.lt_succ_iff_lt_or_eq.1 hjh with e | e
     ·have:=HST.out j hj h hhu e
      rw [<-HX.out] at this
      exact lt_trans9 this hx
     ·subst e;rw [<-HX.out];exact hx⟩
    have hcd:decide (cv<0)=true:=by simpa using hcv
    clear hx
    refine wp_region_grow (by kernel_rfl) (by kernel_rfl) ?_
    repeat (go_big_quiet_step (first | (go_at_call 94;with_reducible exact HCM.out _)))
    refine wpQuiet_nil ?_
    rintro _ ⟨X,rfl⟩
    clear g0 g1 g2 g3 p0 p1 p2 p3
    go_wp2_with fail
    go_roundw
    case rel=>exact ⟨h+1,q,by go_num,rfl,by have:=HPQ.out;omega,hqn,HL2,HHI,⟨HGR.out X⟩⟩
    case measure=>have:=HPQ.out;simp [intOf];omega
   ·have hx:unLt x u=false:=by
     cases hq:unLt x u with
     | false=>rfl
     | true=>exact absurd (HNG.out.2 hq) hcv
    have HH2:Shut (∀ j (hj:j<us.length),h<=j->unLt us[j] u=false):=⟨fun j hj hjh=>by
     rcases Nat.lt_or_eq_of_le hjh with e | e
     ·cases hq:unLt us[j] u with
      | false=>rfl
      | true =>
       have:=lt_trans9 (HST.out h hhu j hj e) hq
       rw [<-HX.out,hx] at this
       cases this
     ·subst e;rw [<-HX.out];exact hx⟩
    have hcd:decide (cv<0)=false:=by simpa using hcv
    clear hx
    refine wp_region_grow (by kernel_rfl) (by kernel_rfl) ?_
    repeat (go_big_quiet_step (first | (go_at_call 94;with_reducible exact HCM.out _)))
    refine wpQuiet_nil ?_
    rintro _ ⟨X,rfl⟩
    clear g0 g1 g2 g3 p0 p1 p2 p3
    go_wp2_with fail
    go_roundw
    case rel=>exact ⟨p,h,rfl,rfl,by have:=HPQ.out;omega,by have:=HPQ.out;omega,HLO,HH2,⟨HGR.out X⟩⟩
    case measure=>have:=HPQ.out;simp [intOf];omega
  ·obtain rfl:p=q:=by omega
   go_upto_region 8 with fail
   by_cases hpn:p<n
   ·have hpu:p<us.length:=by have:=HN.out;omega
    obtain ⟨b,off,x,rfl,hx,lb,hc⟩:=un_at HR.out HW.out.bel hpu
    have p0:∀ X:Grow wr,X.val.cell? ⟨b,off+p*4,none⟩=some (.int .i64 x.group):=fun X=>(hc X.val X.bel).1
    have p1:∀ X:Grow wr,X.val.cell? ⟨b,off+p*4+1,none⟩=some (.int .i64 x.index):=fun X=>(hc X.val X.bel).2.1
    have p2:∀ X:Grow wr,X.val.cell? ⟨b,off+p*4+2,none⟩=some (.string x.text):=fun X=>(hc X.val X.bel).2.2.1
    have p3:∀ X:Grow wr,X.val.cell? ⟨b,off+p*4+3,none⟩=some (.int .i64 x.sum):=fun X=>(hc X.val X.bel).2.2.2
    have HCM:=Shut.mk (fun X=>calls_grow (w:=wr) (fun W' (_:Below wr.heap.size wr W')=>implCmp x u W') X)
    have HCT:Shut (Cut us u p (cmpU x u==0)):=⟨⟨by have:=HN.out;omega,HLO.out,HHI.out,by
     have:=cmpU_zero x u
     rw [hx] at this ⊢
     constructor
     ·intro h;exact ⟨hpu,this.1 (by simpa using h)⟩
     ·rintro ⟨_,h⟩;simpa using this.2 h⟩⟩
    generalize cmpU x u=cv at HCM HCT
    have hpd:decide ((p:Int)<(n:Int))=true:=by simp;omega
    have hpi:(p:Int)<(n:Int):=by omega
    have hp0:(0:Int)<=(p:Int):=by omega
    clear hc hx
    refine wp_region_grow (by kernel_rfl) (by kernel_rfl) ?_
    repeat (go_big_quiet_step (first | (go_at_call 94;with_reducible exact HCM.out _)))
    refine wpQuiet_nil ?_
    rintro _ ⟨X,rfl⟩
    clear g0 g1 g2 g3 p0 p1 p2 p3
    go_wp2_with fail
    go_ret2
    exact ⟨p,cv==0,rfl,HCT.out,(HGR.out X).bel⟩
   ·have HCT:Shut (Cut us u p false):=⟨⟨by have:=HN.out;omega,HLO.out,HHI.out,by
     constructor
     ·intro h;cases h
     ·rintro ⟨h,_⟩;have:=HN.out;omega⟩⟩
    have hpd:decide ((p:Int)<(n:Int))=false:=by simp;omega
    have hpd2:decide (p<n)=false:=by simp;omega
    refine wp_region_grow (by kernel_rfl) (by kernel_rfl) ?_
    repeat (go_big_quiet_step (fail))
    refine wpQuiet_nil ?_
    rintro _ ⟨X,rfl⟩
    clear g0 g1 g2 g3
    go_wp2_with fail
    go_ret2
    exact ⟨p,false,rfl,HCT.out,(HGR.out X).bel⟩
end Go.Proofs.YteaieagkjepgiaaGreatDoorT
/- . -/
namespace Go.Proofs.YteaieagkjepgiaaGreatDoorT
set_option maxRecDepth 100000
open Go.RowKit BigFrame
attribute [local go_sem ↓] Go.wp_at_zero Go.wp_at_succ
end Go.Proofs.YteaieagkjepgiaaGreatDoorT
