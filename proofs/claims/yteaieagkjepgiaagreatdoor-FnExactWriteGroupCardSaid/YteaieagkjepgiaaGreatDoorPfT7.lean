/- Texts of ours, laid one behind the other: TApRow, TSpI, TSpJ, TSpK, TWgA, THcA. -/
import Derived.Test.YteaieagkjepgiaaGreatDoorPfT6
import Derived.Deep.Upon
import Derived.Maps.AppendAt
set_option linter.unusedVariables false
set_option linter.unusedSimpArgs false
/- . -/
namespace Go.Proofs.YteaieagkjepgiaaGreatDoorT
set_option maxRecDepth 100000
open Go.RowKit
theorem wpList_append_row {P:Program} (w:World) {ops:Array Oper} {rest:List Oper} {o:Oper} {a:Act} {Q:Exit->Act->World->Prop} (hgd:o.guard=none) (s x:Operand) (t:TypeId)
  (ho:o.op = .call { callee:=.builtin .append,args:=#[s,x],argTypes:=#[t,t] })
  (base:Nat) (e:TypeId) (i:TypeInfo) (z:Value) (size bytes:Nat) (ht:P.underlying t=some (.slice e)) (hi:P.info? e=some i) (hz:i.zero=some z)
  (hsize:i.size=size) (hby:i.bytes=bytes) (hzs:z.cells.size=size) (hsz:0<size)
  (v:Value) (n:Nat) (xs:List Value) (hs:a.eval s=v) (hown:w.ownsRow base e size v n xs)
  (ra:Option Addr) (m c:Nat) (news:List Value) (hx:a.eval x = .slice ra m c) (hl:news.length=m*size) (hrow:CRow w ra news) (h1:∀ u ∈ news,u.oneCell'=true)
  (h63:n+m<=maxLen) (hbytes:(n+m)*bytes<=140737488355328) (hbase:base<=w.heap.size)
  (h:∀ v' w',w'.ownsRow base e size v' (n+m) (xs++news)->w.grownBy w' v.ownBlock->(v'.ownBlock=v.ownBlock\/v'.ownBlock=some w.heap.size)->wpList P ops Q rest (a.put o.dst v') w') :
  wpList P ops Q (o::rest) a w:=by
 by_cases hm:m=0
 ·subst hm
  have hn:news=[]:=List.eq_nil_of_length_eq_zero (by rw [hl];simp)
  subst hn
  have hv:∃ av cv,v = .slice av n cv/\n<=cv:=by
   rcases hown.2 with ⟨rfl,h0⟩ | ⟨g,cap,cur,e1,_,_,h3,_⟩
   ·exact ⟨none,0,by rw [h0],by omega⟩
   ·exact ⟨_,_,e1,h3⟩
  obtain ⟨av,cv,rfl,hcv⟩:=hv
  have hsrc:Src P i.size t (.slice ra 0 c) 0 [] w:=by
   cases ra with
   | none=>exact Src.ofNil w ht c
   | some q=>exact Src.ofSlice w ht q 0 c [] (by simp) (by simp) (by simp)
  refine wpList_plain hgd fun K' hK'=>?_
  unfold Oper.wp
  simp [execOp,ho,resolve,invoke,builtin,hs,hx,run_append_nothing w t t o.type e i ht hi av n cv hcv _ hsrc,Result.andThen]
  exact hK' _ _ (h _ w (by simpa using hown) ⟨rfl,rfl,rfl,Nat.le_refl _,fun _ _ _=>rfl⟩ (.inl rfl))
 ·obtain ⟨b,off,rfl,_,hc⟩:=hrow (by rw [hl];exact Nat.mul_pos (Nat.pos_of_ne_zero hm) hsz)
  refine wpList_append_own_at _ hgd s x t ho base e i z size bytes ht hi hz hsize hby hzs hsz v n xs hs hown ⟨b,off,none⟩ m c news hx hl (fun j u hj=>?_) h1 h63 hbytes hbase (fun v' w' h2 h3 _ h5=>h v' w' h2 h3 h5)
  have e2:(⟨b,off,none⟩:Addr).add j=⟨b,off+j,none⟩:=by cases j <;> simp [Addr.add]
  rw [e2]
  exact hc j u hj
end Go.Proofs.YteaieagkjepgiaaGreatDoorT
/- . -/
namespace Go.Proofs.YteaieagkjepgiaaGreatDoorT
set_option maxRecDepth 100000
open Go.RowKit BigFrame
attribute [local go_sem ↓] Go.wp_at_zero Go.wp_at_succ
theorem uns_one (us:List UnM):∀ u ∈ unS us,u.oneCell'=true:=by
 intro u hu
 unfold unS at hu
 obtain ⟨x,_,hx⟩:=List.mem_flatMap.1 hu
 simp only [unC,List.mem_cons,List.not_mem_nil,or_false] at hx
 rcases hx with rfl | rfl | rfl | rfl <;> rfl
set_option maxHeartbeats 1000000 in
theorem specCopy14L (H:HM) (a:Option Addr) (cap:Nat) (w:World) (hr:UnRow w a H.us) (hl:H.us.length<=1400000) :
  Calls Tw.prog 36 #[hov H a cap] w fun e w'=>HoPost H w e w':=by
 obtain ⟨i0,hin,hz0,hz1,hz2⟩:=info_parts infoUnit
 have HS0:=Shut.mk (((SL.start w).new #[.int .i64 H.id,.bool H.up,.slice a H.us.length cap] 45).new #[.int .i64 0,.bool false,.slice none 0 0] 45)
 simp only [World.size_alloc] at HS0
 have HR:=Shut.mk hr
 clear hr
 obtain ⟨id,up,us⟩:=H
 show Calls Tw.prog 36 #[.agg #[.int .i64 id,.bool up,.slice a us.length cap]] w fun e w'=>HoPost ⟨id,up,us⟩ w e w'
 dsimp only at *
 obtain ⟨n,hn⟩:∃ n,n=us.length:=⟨_,rfl⟩
 have HN:=Shut.mk hn
 rw [<-hn] at HS0 hl ⊢
 clear hn
 go_enter Tw.func36,Tw.ntmps36
 go_upto_region 1 with fail
 refine wp_shade (fun W=>SL w W [bxS (w.heap.size+1) [.int .i64 0,.bool false,.slice none 0 0],bxS w.heap.size [.int .i64 id,.bool up,.slice a n cap]]) HS0.out ?_
 intro W hW
 have HW:=Shut.mk hW
 clear HS0 hW
 have HO:=Shut.mk (OwS.new (ty:=49) (sz:=4) HW.out)
 have hsz:=HW.out.bel.size
 have lw:=(show WCells W w.heap.size _ from HW.out.at 1 rfl).1
 have x2:=(HW.out.bx 1 rfl 2 _ rfl).1
 go_upto_region 2 with (at_builtin;refine wpList_append_row _ rfl _ _ 43 rfl w.heap.size 49 i0 _ 4 40 Tw.underlying43 hin hz0 hz1 hz2 rfl (by decide) _ _ _ rfl HO.out.own a n cap (unS us) rfl (by rw [unS_len,HN.out]) (HR.out.stays HO.out.sl.bel) (uns_one us) (by unfold maxLen;omega) (by omega) HO.out.sl.bel.size ?_;intro v6 w6 ho6 hg6 ha6;obtain ⟨a7,c7,rfl⟩:=own_row_slice ho6;have H6:=Shut.mk (HO.out.more (Below.refl _ _) ho6 hg6 ha6);obtain ⟨y2,y2z⟩:=H6.out.sl.bx 1 rfl 2 _ rfl;clear ho6 hg6 ha6 x2 HO;simp only [Nat.zero_add,List.nil_append] at H6)
 have HP:=Shut.mk (H6.out.put 1 rfl 2 (.slice a7 n c7) (by simp))
 simp only [List.set_cons_zero,List.set_cons_succ] at HP
 refine wp_shade (fun W'=>OwS w W' [bxS (w.heap.size+1) [.int .i64 0,.bool false,.slice none 0 0],bxS w.heap.size [.int .i64 id,.bool up,.slice a7 n c7]] 49 4 (.slice a7 n c7) n (unS us)) HP.out ?_
 intro W7 h7
 have H7:=Shut.mk h7
 clear h7 HP H6 y2 y2z
 have z0:=(H7.out.sl.bx 1 rfl 0 _ rfl).1
 have z1:=(H7.out.sl.bx 1 rfl 1 _ rfl).1
 have z2:=(H7.out.sl.bx 1 rfl 2 _ rfl).1
 obtain ⟨r0,r0z⟩:=H7.out.sl.bx 0 rfl 0 _ rfl
 obtain ⟨r1,r1z⟩:=H7.out.sl.bx 0 rfl 1 _ rfl
 obtain ⟨r2,r2z⟩:=H7.out.sl.bx 0 rfl 2 _ rfl
 go_wp2_with fail
 have HE:=Shut.mk ((((H7.out.put 0 rfl 0 (.int .i64 id) (by simp)).put 0 rfl 1 (.bool up) (by simp)).put 0 rfl 2 (.slice a7 n c7) (by simp)))
 obtain ⟨a8,c8,e8,hf8,hc8⟩:=HE.out.frw
 obtain ⟨rfl,rfl⟩:a7=a8/\c7=c8:=by simpa using e8
 refine bodyPost_ret (v:=.agg #[.int .i64 id,.bool up,.slice a7 n c7]) (by simp [results,Tw.results36,go_sem,r0,r1,r2]) rfl ⟨a7,c7,by rw [HN.out],hf8,by have:=HN.out;show us.length<=c7;omega,HE.out.sl.bel⟩
theorem specCopy14 (H:HM) (a:Option Addr) (cap:Nat) (w:World) (hr:UnRow w a H.us) (hl:H.us.length<=1048576) :
  Calls Tw.prog 36 #[hov H a cap] w fun e w'=>HoPost H w e w':=specCopy14L H a cap w hr (by omega)
end Go.Proofs.YteaieagkjepgiaaGreatDoorT
/- . -/
namespace Go.Proofs.YteaieagkjepgiaaGreatDoorT
set_option maxRecDepth 100000
open Go.RowKit BigFrame
attribute [local go_sem ↓] Go.wp_at_zero Go.wp_at_succ
theorem un_at {w W:World} {a:Option Addr} {us:List UnM} (hr:UnRow w a us) (hb:Below w.heap.size w W) {k:Nat} (hk:k<us.length):∃ b off u,a=some ⟨b,off,none⟩/\u=us[k]/\b<w.heap.size/\∀ X,Below W.heap.size W X->X.cell? ⟨b,off+k*4,none⟩=some (.int .i64 u.group)/\X.cell? ⟨b,off+k*4+1,none⟩=some (.int .i64 u.index)/\X.cell? ⟨b,off+k*4+2,none⟩=some (.string u.text)/\X.cell? ⟨b,off+k*4+3,none⟩=some (.int .i64 u.sum):=by
 obtain ⟨b,off,e,lb,_⟩:=UnRow.at hr (by omega)
 refine ⟨b,off,us[k],e,rfl,lb,fun X hX=>?_⟩
 obtain ⟨b',off',e',_,hc⟩:=UnRow.at (hr.stays (hb.trans (hX.mono hb.size))) (by omega)
 rw [e] at e'
 simp only [Option.some.injEq,Addr.mk.injEq,and_true] at e'
 obtain ⟨rfl,rfl⟩:=e'
 exact hc k hk
end Go.Proofs.YteaieagkjepgiaaGreatDoorT
/- . -/
namespace Go.Proofs.YteaieagkjepgiaaGreatDoorT
set_option maxRecDepth 100000
open Go.RowKit BigFrame
attribute [local go_sem ↓] Go.wp_at_zero Go.wp_at_succ
theorem uns_snoc (us:List UnM) (u:UnM):unS (us++[u])=unS us++unC u:=by simp [unS]
theorem filter_tk {α:Type} (f:α->Bool) (L:List α) (k:Nat) (h:k<L.length):(L.take (k+1)).filter f=(L.take k).filter f++if f L[k]=true then [L[k]] else []:=by
 rw [List.take_succ_eq_append_getElem h,List.filter_append]
 congr 1
 split <;> simp [*]
def HbPost (r:HM × Bool) (w:World) (e:Ending) (w':World):Prop:=∃ a cap,e = .returned (.tuple #[hov r.1 a cap,.bool r.2])/\FRw w' a (unS r.1.us) w.heap.size w'.heap.size/\r.1.us.length<=cap/\Below w.heap.size w w'
theorem put_fits {us:List UnM} {u:UnM} (h:UnFits us) (hu:UnFit u) (hl:us.length<=1400000):UnFits (putL us u):=by
 unfold putL
 have l1:=List.length_filter_le (unLt · u) us
 have l2:=List.length_filter_le (unLt u ·) us
 refine ⟨by simp only [List.length_append,List.length_singleton];omega,fun x hx=>?_⟩
 simp only [List.mem_append,List.mem_filter,List.mem_singleton] at hx
 rcases hx with (hx | rfl) | hx
 ·exact h.2 x hx.1
 ·exact hu
 ·exact h.2 x hx.1
theorem frw_wide {W:World} {va:Option Addr} {X:List Value} {lo hi lo' hi':Nat} (h:FRw W va X lo hi) (h1:lo'<=lo) (h2:hi<=hi'):FRw W va X lo' hi':=by
 rcases h with e | ⟨g,e,q1,q2,q3⟩
 ·exact .inl e
 ·exact .inr ⟨g,e,by omega,by omega,q3⟩
set_option maxRecDepth 100000 in
set_option maxHeartbeats 8000000 in
theorem specPutUnitL (H:HM) (a:Option Addr) (cap:Nat) (u:UnM) (w:World) (hr:UnRow w a H.us) (hl:H.us.length<=1400000) (hf:UnFits H.us) (hu:UnFit u) (ht:u.text.size<=1048576) :
  Calls Tw.prog 17 #[hov H a cap,unv u] w fun e w'=>HbPost (putX H u) w e w':=by
 obtain ⟨i0,hin,hz0,hz1,hz2⟩:=info_parts infoUnit
 have HR:=Shut.mk hr
 have HCP:=Shut.mk (fun (W:World) (hb:Below w.heap.size w W)=>specCopy14L H a cap W (hr.stays hb) (by omega))
 have HO1:=Shut.mk (fun (W:World) (hb:Below w.heap.size w W)=>specHostOk H a cap W (hr.stays hb) (by omega) hf)
 have HPF:=Shut.mk (put_fits (u:=summed u) hf ⟨hu.1,hu.2.1,hu.2.2.1,by have:=sumN_low u.text;show -9223372036854775808<=sumN u.text/\sumN u.text<=9223372036854775807;omega⟩ (by omega))
 have HSU:=Shut.mk (fun W=>specSumText u.text W ht)
 unfold HoPost at HCP
 obtain ⟨id,up,us⟩:=H
 obtain ⟨ug,ui,ut,us0⟩:=u
 obtain ⟨RR,hRR⟩:∃ q,q=putX ⟨id,up,us⟩ ⟨ug,ui,ut,us0⟩:=⟨_,rfl⟩
 rw [<-hRR]
 have HQ:=Shut.mk hRR
 unfold putX summed at HQ
 dsimp only [summed] at HPF HQ
 show Calls Tw.prog 17 #[.agg #[.int .i64 id,.bool up,.slice a us.length cap],.agg #[.int .i64 ug,.int .i64 ui,.string ut,.int .i64 us0]] w fun e w'=>HbPost RR w e w'
 dsimp only [hov] at *
 generalize sumN ut=sn at *
 obtain ⟨P,hP⟩:∃ q,q=putL us ⟨ug,ui,ut,sn⟩:=⟨_,rfl⟩
 rw [<-hP] at HQ HPF
 have HO2:=Shut.mk (fun (W:World) (b:Option Addr) (c:Nat) (hp:P.length<=9000000) (h:UnRow W b P)=>specHostOk ⟨id,up,P⟩ b c W h hp HPF.out)
 obtain ⟨ok1,hk1⟩:∃ q,q=hostOk ⟨id,up,us⟩:=⟨_,rfl⟩
 obtain ⟨ok2,hk2⟩:∃ q,q=hostOk ⟨id,up,P⟩:=⟨_,rfl⟩
 rw [<-hk1] at HQ HO1
 rw [<-hk2] at HQ HO2
 have HP:=Shut.mk hP
 obtain ⟨n,hn⟩:∃ n,n=us.length:=⟨_,rfl⟩
 have HN:=Shut.mk hn
 dsimp only [hov] at HO2
 rw [<-hn] at HCP HO1 hl ⊢
 clear hr hf hu ht hRR hP hk1 hk2 hn HPF
 have HS0:=Shut.mk ((((SL.start w).new #[.int .i64 id,.bool up,.slice a n cap] 45).new #[.int .i64 ug,.int .i64 ui,.string ut,.int .i64 us0] 49).new #[.int .i64 0,.bool false,.slice none 0 0] 45)
 simp only [World.size_alloc] at HS0
 go_enter Tw.func17,Tw.ntmps17
 go_upto_region 1 with fail
 refine wp_shade (fun W=>SL w W [bxS (w.heap.size+1+1) [.int .i64 0,.bool false,.slice none 0 0],bxS (w.heap.size+1) [.int .i64 ug,.int .i64 ui,.string ut,.int .i64 us0],bxS w.heap.size [.int .i64 id,.bool up,.slice a n cap]]) HS0.out ?_
 intro W0 hW
 have H:=Shut.mk hW
 clear HS0 hW
 have x0:=(H.out.bx 2 rfl 0 _ rfl).1
 have x1:=(H.out.bx 2 rfl 1 _ rfl).1
 have x2:=(H.out.bx 2 rfl 2 _ rfl).1
 go_upto_region 2 with (go_at_call 36;refine (HCP.out _ H.out.bel).mono ?_;rintro e w1 ⟨ac,cc,rfl,hF,hcc,hb⟩;have HS1:=Shut.mk (H.out.add (s:=rwS ac (unS us) W0.heap.size w1.heap.size) hb hF (rwS.loc _ _ _ _) (Nat.le_refl _) (Nat.le_refl _));clear hF hb H x0 x1 x2)
 generalize W0.heap.size=lc at HS1
 obtain ⟨hc9,hhc⟩:∃ q,q=w1.heap.size:=⟨_,rfl⟩
 rw [<-hhc] at HS1
 clear hhc
 obtain ⟨b6,hb6⟩:∃ q,q=w1.heap.size:=⟨_,rfl⟩
 refine wp_shade (fun W=>SL w W [bxS b6 [.int .i64 id,.bool up,.slice ac n cc],rwS ac (unS us) lc hc9,bxS (w.heap.size+1+1) [.int .i64 0,.bool false,.slice none 0 0],bxS (w.heap.size+1) [.int .i64 ug,.int .i64 ui,.string ut,.int .i64 us0],bxS w.heap.size [.int .i64 id,.bool up,.slice a n cap]]) (by rw [hb6];exact HS1.out.new _ _) ?_
 intro W2 hW
 have H:=Shut.mk hW
 rw [<-hb6]
 clear hW hb6 HS1
 have x2:=(H.out.bx 3 rfl 2 _ rfl).1
 have z3:=H.out.bx 3 rfl 3 _ rfl
 obtain ⟨z3,z3z⟩:=z3
 go_upto_region 3 with (go_at_call 37;refine (HSU.out _).mono ?_;rintro e w2 ⟨rfl,rfl⟩)
 have HS3:=Shut.mk (H.out.put 3 rfl 3 (.int .i64 sn) (by simp))
 simp only [List.set_cons_zero,List.set_cons_succ] at HS3
 refine wp_shade (fun W=>SL w W [bxS b6 [.int .i64 id,.bool up,.slice ac n cc],rwS ac (unS us) lc hc9,bxS (w.heap.size+1+1) [.int .i64 0,.bool false,.slice none 0 0],bxS (w.heap.size+1) [.int .i64 ug,.int .i64 ui,.string ut,.int .i64 sn],bxS w.heap.size [.int .i64 id,.bool up,.slice a n cap]]) HS3.out ?_
 intro W3 hW
 have H:=Shut.mk hW
 clear hW HS3 x2 z3 z3z
 have HOLD:=Shut.mk (OwS.new (ty:=49) (sz:=4) H.out)
 clear H
 go_upto_region 4 with fail
 refine wp_shade (fun W=>OwS w W [bxS b6 [.int .i64 id,.bool up,.slice ac n cc],rwS ac (unS us) lc hc9,bxS (w.heap.size+1+1) [.int .i64 0,.bool false,.slice none 0 0],bxS (w.heap.size+1) [.int .i64 ug,.int .i64 ui,.string ut,.int .i64 sn],bxS w.heap.size [.int .i64 id,.bool up,.slice a n cap]] 49 4 (.slice (some ⟨W3.heap.size,0,none⟩) 0 0) 0 []) HOLD.out ?_
 intro W4 hW
 clear HOLD
 have HOLD:=Shut.mk hW
 clear hW
 go_wp2_with fail
 go_loopw [7,8] (fun v9 i9 wr=>∃ (k m:Nat) (L:List UnM),i9 = .int .i64 k/\k<=n/\m<=k/\Shut (L=((us.take k).filter (unLt · ⟨ug,ui,ut,sn⟩))/\m=L.length)/\Shut (OwS w wr [bxS b6 [.int .i64 id,.bool up,.slice ac n cc],rwS ac (unS us) lc hc9,bxS (w.heap.size+1+1) [.int .i64 0,.bool false,.slice none 0 0],bxS (w.heap.size+1) [.int .i64 ug,.int .i64 ui,.string ut,.int .i64 sn],bxS w.heap.size [.int .i64 id,.bool up,.slice a n cap]] 49 4 v9 m (unS L))) (fun _ i9 _=>n - (intOf i9).toNat)
 case atStart=>exact ⟨0,0,[],rfl,Nat.zero_le _,Nat.le_refl _,⟨by simp⟩,HOLD⟩
 case round =>
  clear HOLD
  obtain ⟨k,m,L,rfl,hk,hm,HL,HW⟩:=hrel
  obtain ⟨av,cv,rfl⟩:=own_row_slice HW.out.own
  have x2:=(HW.out.sl.bx 4 rfl 2 _ rfl).1
  by_cases hlt:k<n
  ·have hku:k<us.length:=by rw [<-HN.out];exact hlt
   obtain ⟨b,off,x,rfl,hx,lb,hc⟩:=un_at HR.out HW.out.sl.bel hku
   have lw:=(show WCells wr w.heap.size _ from HW.out.sl.at 4 rfl).1
   have lu:=(show WCells wr (w.heap.size+1) _ from HW.out.sl.at 3 rfl).1
   have k0:(0:Int)<=(k:Int):=by omega
   have k1:(k:Int)<(n:Int):=by omega
   have gx:∀ X:Grow wr,X.val.cell? ⟨w.heap.size,2,none⟩=some (.slice (some ⟨b,off,none⟩) n cap):=fun X=>X.cell x2 lw
   have u0:∀ X:Grow wr,X.val.cell? ⟨w.heap.size+1,0,none⟩=some (.int .i64 ug):=fun X=>X.cell (HW.out.sl.bx 3 rfl 0 _ rfl).1 lu
   have u1:∀ X:Grow wr,X.val.cell? ⟨w.heap.size+1,1,none⟩=some (.int .i64 ui):=fun X=>X.cell (HW.out.sl.bx 3 rfl 1 _ rfl).1 lu
   have u2:∀ X:Grow wr,X.val.cell? ⟨w.heap.size+1,2,none⟩=some (.string ut):=fun X=>X.cell (HW.out.sl.bx 3 rfl 2 _ rfl).1 lu
   have u3:∀ X:Grow wr,X.val.cell? ⟨w.heap.size+1,3,none⟩=some (.int .i64 sn):=fun X=>X.cell (HW.out.sl.bx 3 rfl 3 _ rfl).1 lu
   have p0:∀ X:Grow wr,X.val.cell? ⟨b,off+k*4,none⟩=some (.int .i64 x.group):=fun X=>(hc X.val X.bel).1
   have p1:∀ X:Grow wr,X.val.cell? ⟨b,off+k*4+1,none⟩=some (.int .i64 x.index):=fun X=>(hc X.val X.bel).2.1
   have p2:∀ X:Grow wr,X.val.cell? ⟨b,off+k*4+2,none⟩=some (.string x.text):=fun X=>(hc X.val X.bel).2.2.1
   have p3:∀ X:Grow wr,X.val.cell? ⟨b,off+k*4+3,none⟩=some (.int .i64 x.sum):=fun X=>(hc X.val X.bel).2.2.2
   have HAH:=Shut.mk (fun X=>calls_grow (w:=wr) (fun W' (_:Below wr.heap.size wr W')=>specAhead x ⟨ug,ui,ut,sn⟩ W') X)
   have HNX:Shut ((us.take (k+1)).filter (unLt · ⟨ug,ui,ut,sn⟩)=(us.take k).filter (unLt · ⟨ug,ui,ut,sn⟩)++if unLt x ⟨ug,ui,ut,sn⟩=true then [x] else []):=⟨by rw [hx];exact filter_tk _ us k hku⟩
   have HC:=Shut.mk hc
   clear hc hx lw lu
   go_upto_region 7 with fail
   clear x2
   cases hal:unLt x ⟨ug,ui,ut,sn⟩ with
   | false =>
    rw [hal] at HAH HNX
    refine wp_region_grow (by kernel_rfl) (by kernel_rfl) ?_
    repeat (go_big_quiet_step (first | (go_at_call 38;with_reducible exact HAH.out _)))
    refine wpQuiet_nil ?_
    rintro _ ⟨X,rfl⟩
    have H2:=Shut.mk (HW.out.below X.bel)
    clear gx u0 u1 u2 u3 p0 p1 p2 p3
    go_wp2_with fail
    go_roundw
    case rel=>exact ⟨k+1,m,L,by go_num,by omega,by omega,⟨by rw [HNX.out];simpa using HL.out⟩,H2⟩
    case measure=>simp [intOf];omega
   | true =>
    rw [hal] at HAH HNX
    refine wp_region_grow (by kernel_rfl) (by kernel_rfl) ?_
    repeat (go_big_quiet_step (first | (go_at_call 38;with_reducible exact HAH.out _)))
    refine wpQuiet_nil ?_
    rintro _ ⟨X,rfl⟩
    have H2:=Shut.mk (HW.out.below X.bel)
    have y2:=gx X
    have d0:=p0 X
    have d1:=p1 X
    have d2:=p2 X
    have d3:=p3 X
    have lbX:b<X.val.heap.size:=Nat.lt_of_lt_of_le lb (Nat.le_trans HW.out.sl.bel.size X.bel.size)
    clear gx u0 u1 u2 u3 p0 p1 p2 p3
    obtain ⟨W2,hb2⟩:=X
    dsimp only at *
    have hown:=H2.out.own
    have hbs:=H2.out.sl.bel.size
    go_wp2_with (at_builtin;refine wpList_append_own_at _ rfl _ _ 43 rfl w.heap.size 49 i0 _ 4 40 Tw.underlying43 hin hz0 hz1 hz2 rfl (by decide) _ _ _ rfl (hown.alloc _) ⟨W2.heap.size,0,none⟩ 1 1 [.int .i64 x.group,.int .i64 x.index,.string x.text,.int .i64 x.sum] rfl rfl (World.news_of_block (cs:=#[.int .i64 x.group,.int .i64 x.index,.string x.text,.int .i64 x.sum]) (t:=49) (fr:=(0,0)) (heap_alloc_new W2 _)) ?c25 ?c35 ?c45 ?c55 ?_)
    case c25=>simp [Value.oneCell']
    case c35=>unfold maxLen;omega
    case c45=>omega
    case c55=>first | omega | (simp;omega)
    intro v5 w5 ho hg _ hat
    have HL5:=Shut.mk (H2.out.more ((Below.refl _ _).alloc (Nat.le_refl _) _) ho hg (by simpa using hat))
    clear ho hg hat hown hbs
    go_wp2_with fail
    go_roundw
    case rel=>exact ⟨k+1,m+1,L++[x],by go_num,by omega,by omega,⟨⟨by rw [HNX.out];simp only [if_true];rw [<-HL.out.1],by rw [List.length_append,<-HL.out.2];rfl⟩⟩,⟨by rw [uns_snoc];exact HL5.out⟩⟩
    case measure=>simp [intOf];omega
  ·obtain rfl:n=k:=by omega
   have HLN:Shut (L=(us.filter (unLt · ⟨ug,ui,ut,sn⟩))/\m=L.length):=⟨by have:=HL.out;rwa [List.take_of_length_le (by have:=HN.out;omega)] at this⟩
   clear HL hlt
   have HL1N:=HLN
   clear HLN
   obtain ⟨L1,hL1⟩:∃ q,q=L++[(⟨ug,ui,ut,sn⟩:UnM)]:=⟨_,rfl⟩
   obtain ⟨m1,hm1⟩:∃ q,q=m+1:=⟨_,rfl⟩
   have u0:=(HW.out.sl.bx 3 rfl 0 _ rfl).1
   have u1:=(HW.out.sl.bx 3 rfl 1 _ rfl).1
   have u2:=(HW.out.sl.bx 3 rfl 2 _ rfl).1
   have u3:=(HW.out.sl.bx 3 rfl 3 _ rfl).1
   have hown:=HW.out.own
   have hbs:=HW.out.sl.bel.size
   go_wp2_with (at_builtin;refine wpList_append_own_at _ rfl _ _ 43 rfl w.heap.size 49 i0 _ 4 40 Tw.underlying43 hin hz0 hz1 hz2 rfl (by decide) _ _ _ rfl (hown.alloc _) ⟨wr.heap.size,0,none⟩ 1 1 [.int .i64 ug,.int .i64 ui,.string ut,.int .i64 sn] rfl rfl (World.news_of_block (cs:=#[.int .i64 ug,.int .i64 ui,.string ut,.int .i64 sn]) (t:=49) (fr:=(0,0)) (heap_alloc_new wr _)) ?c27 ?c37 ?c47 ?c57 ?_)
   case c27=>simp [Value.oneCell']
   case c37=>unfold maxLen;omega
   case c47=>omega
   case c57=>first | omega | (simp;omega)
   intro v7 w7 ho hg _ hat
   have HL7:=Shut.mk (HW.out.more ((Below.refl _ _).alloc (Nat.le_refl _) _) ho hg (by simpa using hat))
   clear ho hg hat hown hbs
   replace HL1N:Shut (L1=us.filter (unLt · ⟨ug,ui,ut,sn⟩)++[(⟨ug,ui,ut,sn⟩:UnM)]/\m1=L1.length):=⟨by rw [hL1,hm1,List.length_append,<-HL1N.out.2,HL1N.out.1];exact ⟨rfl,rfl⟩⟩
   have HOLD:Shut (OwS w w7 [bxS b6 [.int .i64 id,.bool up,.slice ac n cc],rwS ac (unS us) lc hc9,bxS (w.heap.size+1+1) [.int .i64 0,.bool false,.slice none 0 0],bxS (w.heap.size+1) [.int .i64 ug,.int .i64 ui,.string ut,.int .i64 sn],bxS w.heap.size [.int .i64 id,.bool up,.slice a n cap]] 49 4 v7 m1 (unS L1)):=⟨by rw [hL1,hm1,uns_snoc];exact HL7.out⟩
   have hm9:m1<=n+1:=by omega
   clear hL1 hm1 HL7 HW u0 u1 u2 u3 x2 hm
   go_wp2_with fail
   go_loopw [7,9] (fun v9 i9 wr=>∃ (k m:Nat) (L:List UnM),i9 = .int .i64 k/\k<=n/\m<=m1+k/\Shut (L=L1++((us.take k).filter (unLt ⟨ug,ui,ut,sn⟩ ·))/\m=L.length)/\Shut (OwS w wr [bxS b6 [.int .i64 id,.bool up,.slice ac n cc],rwS ac (unS us) lc hc9,bxS (w.heap.size+1+1) [.int .i64 0,.bool false,.slice none 0 0],bxS (w.heap.size+1) [.int .i64 ug,.int .i64 ui,.string ut,.int .i64 sn],bxS w.heap.size [.int .i64 id,.bool up,.slice a n cap]] 49 4 v9 m (unS L))) (fun _ i9 _=>n - (intOf i9).toNat)
   case atStart=>exact ⟨0,m1,L1,rfl,Nat.zero_le _,Nat.le_refl _,⟨by simpa using HL1N.out.2⟩,HOLD⟩
   case round =>
    clear HOLD
    obtain ⟨k,m,L,rfl,hk,hm,HL,HW⟩:=hrel
    obtain ⟨av,cv,rfl⟩:=own_row_slice HW.out.own
    have x2:=(HW.out.sl.bx 4 rfl 2 _ rfl).1
    by_cases hlt:k<n
    ·have hku:k<us.length:=by rw [<-HN.out];exact hlt
     obtain ⟨b,off,x,rfl,hx,lb,hc⟩:=un_at HR.out HW.out.sl.bel hku
     have lw:=(show WCells wr w.heap.size _ from HW.out.sl.at 4 rfl).1
     have lu:=(show WCells wr (w.heap.size+1) _ from HW.out.sl.at 3 rfl).1
     have k0:(0:Int)<=(k:Int):=by omega
     have k1:(k:Int)<(n:Int):=by omega
     have gx:∀ X:Grow wr,X.val.cell? ⟨w.heap.size,2,none⟩=some (.slice (some ⟨b,off,none⟩) n cap):=fun X=>X.cell x2 lw
     have u0:∀ X:Grow wr,X.val.cell? ⟨w.heap.size+1,0,none⟩=some (.int .i64 ug):=fun X=>X.cell (HW.out.sl.bx 3 rfl 0 _ rfl).1 lu
     have u1:∀ X:Grow wr,X.val.cell? ⟨w.heap.size+1,1,none⟩=some (.int .i64 ui):=fun X=>X.cell (HW.out.sl.bx 3 rfl 1 _ rfl).1 lu
     have u2:∀ X:Grow wr,X.val.cell? ⟨w.heap.size+1,2,none⟩=some (.string ut):=fun X=>X.cell (HW.out.sl.bx 3 rfl 2 _ rfl).1 lu
     have u3:∀ X:Grow wr,X.val.cell? ⟨w.heap.size+1,3,none⟩=some (.int .i64 sn):=fun X=>X.cell (HW.out.sl.bx 3 rfl 3 _ rfl).1 lu
     have p0:∀ X:Grow wr,X.val.cell? ⟨b,off+k*4,none⟩=some (.int .i64 x.group):=fun X=>(hc X.val X.bel).1
     have p1:∀ X:Grow wr,X.val.cell? ⟨b,off+k*4+1,none⟩=some (.int .i64 x.index):=fun X=>(hc X.val X.bel).2.1
     have p2:∀ X:Grow wr,X.val.cell? ⟨b,off+k*4+2,none⟩=some (.string x.text):=fun X=>(hc X.val X.bel).2.2.1
     have p3:∀ X:Grow wr,X.val.cell? ⟨b,off+k*4+3,none⟩=some (.int .i64 x.sum):=fun X=>(hc X.val X.bel).2.2.2
     have HAH:=Shut.mk (fun X=>calls_grow (w:=wr) (fun W' (_:Below wr.heap.size wr W')=>specAhead ⟨ug,ui,ut,sn⟩ x W') X)
     have HNX:Shut ((us.take (k+1)).filter (unLt ⟨ug,ui,ut,sn⟩ ·)=(us.take k).filter (unLt ⟨ug,ui,ut,sn⟩ ·)++if unLt ⟨ug,ui,ut,sn⟩ x=true then [x] else []):=⟨by rw [hx];exact filter_tk _ us k hku⟩
     have HC:=Shut.mk hc
     clear hc hx lw lu
     go_upto_region 13 with fail
     clear x2
     cases hal:unLt ⟨ug,ui,ut,sn⟩ x with
     | false =>
      rw [hal] at HAH HNX
      refine wp_region_grow (by kernel_rfl) (by kernel_rfl) ?_
      repeat (go_big_quiet_step (first | (go_at_call 38;with_reducible exact HAH.out _)))
      refine wpQuiet_nil ?_
      rintro _ ⟨X,rfl⟩
      have H2:=Shut.mk (HW.out.below X.bel)
      clear gx u0 u1 u2 u3 p0 p1 p2 p3
      go_wp2_with fail
      go_roundw
      case rel=>exact ⟨k+1,m,L,by go_num,by omega,by omega,⟨by rw [HNX.out];simpa using HL.out⟩,H2⟩
      case measure=>simp [intOf];omega
     | true =>
      rw [hal] at HAH HNX
      refine wp_region_grow (by kernel_rfl) (by kernel_rfl) ?_
      repeat (go_big_quiet_step (first | (go_at_call 38;with_reducible exact HAH.out _)))
      refine wpQuiet_nil ?_
      rintro _ ⟨X,rfl⟩
      have H2:=Shut.mk (HW.out.below X.bel)
      have y2:=gx X
      have d0:=p0 X
      have d1:=p1 X
      have d2:=p2 X
      have d3:=p3 X
      have lbX:b<X.val.heap.size:=Nat.lt_of_lt_of_le lb (Nat.le_trans HW.out.sl.bel.size X.bel.size)
      clear gx u0 u1 u2 u3 p0 p1 p2 p3
      obtain ⟨W2,hb2⟩:=X
      dsimp only at *
      have hown:=H2.out.own
      have hbs:=H2.out.sl.bel.size
      go_wp2_with (at_builtin;refine wpList_append_own_at _ rfl _ _ 43 rfl w.heap.size 49 i0 _ 4 40 Tw.underlying43 hin hz0 hz1 hz2 rfl (by decide) _ _ _ rfl (hown.alloc _) ⟨W2.heap.size,0,none⟩ 1 1 [.int .i64 x.group,.int .i64 x.index,.string x.text,.int .i64 x.sum] rfl rfl (World.news_of_block (cs:=#[.int .i64 x.group,.int .i64 x.index,.string x.text,.int .i64 x.sum]) (t:=49) (fr:=(0,0)) (heap_alloc_new W2 _)) ?c26 ?c36 ?c46 ?c56 ?_)
      case c26=>simp [Value.oneCell']
      case c36=>unfold maxLen;omega
      case c46=>omega
      case c56=>first | omega | (simp;omega)
      intro v6 w6 ho hg _ hat
      have HL6:=Shut.mk (H2.out.more ((Below.refl _ _).alloc (Nat.le_refl _) _) ho hg (by simpa using hat))
      clear ho hg hat hown hbs
      go_wp2_with fail
      go_roundw
      case rel=>exact ⟨k+1,m+1,L++[x],by go_num,by omega,by omega,⟨⟨by rw [HNX.out];simp only [if_true];rw [<-List.append_assoc,<-HL.out.1],by rw [List.length_append,<-HL.out.2];rfl⟩⟩,⟨by rw [uns_snoc];exact HL6.out⟩⟩
      case measure=>simp [intOf];omega
    ·obtain rfl:n=k:=by omega
     have HLN:Shut (L=L1++(us.filter (unLt ⟨ug,ui,ut,sn⟩ ·))/\m=L.length):=⟨by have:=HL.out;rwa [List.take_of_length_le (by have:=HN.out;omega)] at this⟩
     clear HL hlt
     have hz:=HW.out.sl.bx 4 rfl 0 _ rfl
     have x0:=(HW.out.sl.bx 4 rfl 0 _ rfl).1
     have x1:=(HW.out.sl.bx 4 rfl 1 _ rfl).1
     have HPE:Shut (P=L/\m=P.length):=⟨by
      have e:P=L:=by rw [HP.out,HLN.out.1,HL1N.out.1];unfold putL;rfl
      exact ⟨e,by rw [e];exact HLN.out.2⟩⟩
     rw [<-HPE.out.1] at HW
     clear hz
     go_upto_region 16 with fail
     obtain ⟨b10,hb10⟩:∃ q,q=wr.heap.size:=⟨_,rfl⟩
     have HB:=Shut.mk (HW.out.box #[.int .i64 id,.bool up,.slice av m cv] 45)
     rw [<-hb10] at HB
     refine wp_shade (fun W=>OwS w W (bxS b10 [.int .i64 id,.bool up,.slice av m cv]::[bxS b6 [.int .i64 id,.bool up,.slice ac n cc],rwS ac (unS us) lc hc9,bxS (w.heap.size+1+1) [.int .i64 0,.bool false,.slice none 0 0],bxS (w.heap.size+1) [.int .i64 ug,.int .i64 ui,.string ut,.int .i64 sn],bxS w.heap.size [.int .i64 id,.bool up,.slice a n cap]]) 49 4 (.slice av m cv) m (unS P)) HB.out ?_
     intro W9 hW
     rw [<-hb10]
     have H:=Shut.mk hW
     obtain ⟨a8,c8,e8,hrow8,hc8⟩:=H.out.row
     obtain ⟨rfl,rfl⟩:av=a8/\cv=c8:=by simpa using e8
     have HRW:=Shut.mk hrow8
     have HMP:Shut (P.length=m/\P.length<=9000000):=⟨by have:=HPE.out.2;omega⟩
     replace HO2:=Shut.mk (fun (W:World) (hb:Below W9.heap.size W9 W)=>HO2.out W av cv HMP.out.2 (HRW.out.stays hb))
     rw [HMP.out.1] at HO2
     clear hW hb10 HB HW hrow8 e8 x0 x1 x2
     have x0:=(H.out.sl.bx 5 rfl 0 _ rfl).1
     have x1:=(H.out.sl.bx 5 rfl 1 _ rfl).1
     have x2:=(H.out.sl.bx 5 rfl 2 _ rfl).1
     cases ok1 with
     | false =>
      have HE:Shut (RR=(⟨id,up,us⟩,false)):=⟨by rw [HQ.out];simp⟩
      go_upto_region 17 with (first | (go_at_call 39;refine (HO1.out _ H.out.sl.bel).mono ?_;rintro e wa ⟨rfl,hba⟩;have H1:=Shut.mk (H.out.below hba);have HBA:=Shut.mk hba;clear hba H x0 x1 x2;have x1:=(H1.out.sl.bx 5 rfl 1 _ rfl).1;have y0:=(H1.out.sl.bx 0 rfl 0 _ rfl).1;have y1:=(H1.out.sl.bx 0 rfl 1 _ rfl).1;have y2:=(H1.out.sl.bx 0 rfl 2 _ rfl).1))
      have z0:=(H1.out.sl.bx 1 rfl 0 _ rfl).1
      have z1:=(H1.out.sl.bx 1 rfl 1 _ rfl).1
      have z2:=(H1.out.sl.bx 1 rfl 2 _ rfl).1
      obtain ⟨r0,r0z⟩:=H1.out.sl.bx 3 rfl 0 _ rfl
      obtain ⟨r1,r1z⟩:=H1.out.sl.bx 3 rfl 1 _ rfl
      obtain ⟨r2,r2z⟩:=H1.out.sl.bx 3 rfl 2 _ rfl
      go_wp2_with fail
      have HE3:=Shut.mk ((((H1.out.put 3 rfl 0 (.int .i64 id) (by simp)).put 3 rfl 1 (.bool up) (by simp)).put 3 rfl 2 (.slice ac n cc) (by simp)))
      refine bodyPost_ret (v:=.tuple #[.agg #[.int .i64 id,.bool up,.slice ac n cc],.bool false]) (by simp [results,Tw.results17,go_sem,r0,r1,r2]) rfl ?_
      rw [HE.out]
      have hs:=HE3.out.sl.is _ (List.mem_of_getElem? (show _[2]?=some (rwS ac (unS us) lc hc9) from rfl))
      exact ⟨ac,cc,by rw [HN.out],frw_wide (show FRw _ ac (unS us) lc hc9 from hs.1) hs.2.2.1 hs.2.2.2,by have:=HN.out;show us.length<=cc;omega,HE3.out.sl.bel⟩
     | true =>
      cases up with
      | false =>
       have HE:Shut (RR=(⟨id,false,us⟩,false)):=⟨by rw [HQ.out];simp⟩
       go_upto_region 17 with (first | (go_at_call 39;refine (HO1.out _ H.out.sl.bel).mono ?_;rintro e wa ⟨rfl,hba⟩;have H1:=Shut.mk (H.out.below hba);have HBA:=Shut.mk hba;clear hba H x0 x1 x2;have x1:=(H1.out.sl.bx 5 rfl 1 _ rfl).1;have y0:=(H1.out.sl.bx 0 rfl 0 _ rfl).1;have y1:=(H1.out.sl.bx 0 rfl 1 _ rfl).1;have y2:=(H1.out.sl.bx 0 rfl 2 _ rfl).1))
       have z0:=(H1.out.sl.bx 1 rfl 0 _ rfl).1
       have z1:=(H1.out.sl.bx 1 rfl 1 _ rfl).1
       have z2:=(H1.out.sl.bx 1 rfl 2 _ rfl).1
       obtain ⟨r0,r0z⟩:=H1.out.sl.bx 3 rfl 0 _ rfl
       obtain ⟨r1,r1z⟩:=H1.out.sl.bx 3 rfl 1 _ rfl
       obtain ⟨r2,r2z⟩:=H1.out.sl.bx 3 rfl 2 _ rfl
       go_wp2_with fail
       have HE3:=Shut.mk ((((H1.out.put 3 rfl 0 (.int .i64 id) (by simp)).put 3 rfl 1 (.bool false) (by simp)).put 3 rfl 2 (.slice ac n cc) (by simp)))
       refine bodyPost_ret (v:=.tuple #[.agg #[.int .i64 id,.bool false,.slice ac n cc],.bool false]) (by simp [results,Tw.results17,go_sem,r0,r1,r2]) rfl ?_
       rw [HE.out]
       have hs:=HE3.out.sl.is _ (List.mem_of_getElem? (show _[2]?=some (rwS ac (unS us) lc hc9) from rfl))
       exact ⟨ac,cc,by rw [HN.out],frw_wide (show FRw _ ac (unS us) lc hc9 from hs.1) hs.2.2.1 hs.2.2.2,by have:=HN.out;show us.length<=cc;omega,HE3.out.sl.bel⟩
      | true =>
       cases ok2 with
       | false =>
        have HE:Shut (RR=(⟨id,true,us⟩,false)):=⟨by rw [HQ.out];simp⟩
        go_upto_region 17 with (first | (go_at_call 39;refine (HO1.out _ H.out.sl.bel).mono ?_;rintro e wa ⟨rfl,hba⟩;have H1:=Shut.mk (H.out.below hba);have HBA:=Shut.mk hba;clear hba H x0 x1 x2;have x1:=(H1.out.sl.bx 5 rfl 1 _ rfl).1;have y0:=(H1.out.sl.bx 0 rfl 0 _ rfl).1;have y1:=(H1.out.sl.bx 0 rfl 1 _ rfl).1;have y2:=(H1.out.sl.bx 0 rfl 2 _ rfl).1) | (go_at_call 39;refine (HO2.out _ HBA.out).mono ?_;rintro e wb ⟨rfl,hbb⟩;have H2:=Shut.mk (H1.out.below hbb);clear hbb H1 x1 y0 y1 y2))
        have z0:=(H2.out.sl.bx 1 rfl 0 _ rfl).1
        have z1:=(H2.out.sl.bx 1 rfl 1 _ rfl).1
        have z2:=(H2.out.sl.bx 1 rfl 2 _ rfl).1
        obtain ⟨r0,r0z⟩:=H2.out.sl.bx 3 rfl 0 _ rfl
        obtain ⟨r1,r1z⟩:=H2.out.sl.bx 3 rfl 1 _ rfl
        obtain ⟨r2,r2z⟩:=H2.out.sl.bx 3 rfl 2 _ rfl
        go_wp2_with fail
        have HE3:=Shut.mk ((((H2.out.put 3 rfl 0 (.int .i64 id) (by simp)).put 3 rfl 1 (.bool true) (by simp)).put 3 rfl 2 (.slice ac n cc) (by simp)))
        refine bodyPost_ret (v:=.tuple #[.agg #[.int .i64 id,.bool true,.slice ac n cc],.bool false]) (by simp [results,Tw.results17,go_sem,r0,r1,r2]) rfl ?_
        rw [HE.out]
        have hs:=HE3.out.sl.is _ (List.mem_of_getElem? (show _[2]?=some (rwS ac (unS us) lc hc9) from rfl))
        exact ⟨ac,cc,by rw [HN.out],frw_wide (show FRw _ ac (unS us) lc hc9 from hs.1) hs.2.2.1 hs.2.2.2,by have:=HN.out;show us.length<=cc;omega,HE3.out.sl.bel⟩
       | true =>
        have HE:Shut (RR=(⟨id,true,P⟩,true)):=⟨by rw [HQ.out];simp⟩
        go_upto_region 18 with (first | (go_at_call 39;refine (HO1.out _ H.out.sl.bel).mono ?_;rintro e wa ⟨rfl,hba⟩;have H1:=Shut.mk (H.out.below hba);have HBA:=Shut.mk hba;clear hba H x0 x1 x2;have x1:=(H1.out.sl.bx 5 rfl 1 _ rfl).1;have y0:=(H1.out.sl.bx 0 rfl 0 _ rfl).1;have y1:=(H1.out.sl.bx 0 rfl 1 _ rfl).1;have y2:=(H1.out.sl.bx 0 rfl 2 _ rfl).1) | (go_at_call 39;refine (HO2.out _ HBA.out).mono ?_;rintro e wb ⟨rfl,hbb⟩;have H2:=Shut.mk (H1.out.below hbb);clear hbb H1 x1 y0 y1 y2))
        have z0:=(H2.out.sl.bx 0 rfl 0 _ rfl).1
        have z1:=(H2.out.sl.bx 0 rfl 1 _ rfl).1
        have z2:=(H2.out.sl.bx 0 rfl 2 _ rfl).1
        obtain ⟨r0,r0z⟩:=H2.out.sl.bx 3 rfl 0 _ rfl
        obtain ⟨r1,r1z⟩:=H2.out.sl.bx 3 rfl 1 _ rfl
        obtain ⟨r2,r2z⟩:=H2.out.sl.bx 3 rfl 2 _ rfl
        go_wp2_with fail
        have HE3:=Shut.mk ((((H2.out.put 3 rfl 0 (.int .i64 id) (by simp)).put 3 rfl 1 (.bool true) (by simp)).put 3 rfl 2 (.slice av m cv) (by simp)))
        obtain ⟨a9,c9,e9,hf9,hc9'⟩:=HE3.out.frw
        obtain ⟨rfl,rfl⟩:av=a9/\cv=c9:=by simpa using e9
        refine bodyPost_ret (v:=.tuple #[.agg #[.int .i64 id,.bool true,.slice av m cv],.bool true]) (by simp [results,Tw.results17,go_sem,r0,r1,r2]) rfl ?_
        rw [HE.out]
        exact ⟨av,cv,by rw [<-HMP.out.1],hf9,by have:=HMP.out.1;show P.length<=cv;omega,HE3.out.sl.bel⟩
end Go.Proofs.YteaieagkjepgiaaGreatDoorT
/- . -/
namespace Go.Proofs.YteaieagkjepgiaaGreatDoorT
set_option maxRecDepth 100000
open Go.RowKit
theorem unitB_le (k:Nat) (t:ByteArray) (n u:Nat):(unitB k t n u).size<=n:=by
 show (((List.range n).filter fun j=>decide (unitAt k j=u)).map fun j=>t.data.toList.getD j 0).toArray.size<=n
 rw [List.size_toArray,List.length_map]
 exact Nat.le_trans (List.length_filter_le _ _) (by simp)
theorem cut_fit9 (s:Int) (t:ByteArray):TFit (cutX s t).1:=by
 by_cases h:schOk s=true/\t.size<=groupN s
 ·have hg:groupN s<=1000:=by
   have:=(sch_bounds h.1).2.1
   unfold groupN
   omega
  have h1:∀ x ∈ (cutX s t).1,x.size<=1000:=by
   unfold cutX
   rw [if_pos h]
   intro x hx
   obtain ⟨u,_,rfl⟩:=List.mem_map.1 hx
   exact Nat.le_trans (unitB_le _ _ _ _) (by omega)
  have hl:(cutX s t).1.length<=4:=by
   unfold cutX
   rw [if_pos h,cutL_len]
   exact (sch_bounds h.1).2.1
  have h2:∀ L:List ByteArray,(∀ x ∈ L,x.size<=1000)->tsum L<=L.length*1000:=by
   intro L
   induction L with
   | nil=>intro _;simp [tsum]
   | cons x L ih =>
    intro hL
    have q1:=ih fun y hy=>hL y (List.mem_cons_of_mem _ hy)
    have q2:=hL x (List.mem_cons_self ..)
    simp only [tsum,List.length_cons] at *
    omega
  have:=h2 _ h1
  unfold TFit
  omega
 ·unfold cutX
  rw [if_neg h]
  simp [TFit,tsum]
theorem enc_len9 (s:Int) (L:List ByteArray):(encX s L).1.length<=6:=by
 unfold encX
 split
 ·rename_i h
  have e:(appX (codeX s) (fillL L)).length<=(codeX s).length:=by
   unfold appX
   split
   ·simp
   ·exact Nat.zero_le _
  have e2:=codeX_len h.1
  have e3:=sch_bounds h.1
  show (appX (codeX s) (fillL L)).length<=6
  omega
 ·exact Nat.zero_le _
theorem enc_size9 (s:Int) (L:List ByteArray):∀ x ∈ (encX s L).1,x.size<=200:=by
 unfold encX
 split
 ·rename_i h
  intro x hx
  change x ∈ appX (codeX s) (fillL L) at hx
  unfold appX at hx
  split at hx
  ·obtain ⟨row,_,rfl⟩:=List.mem_map.1 hx
   exact accB_size row _ (fillL_size h.2.2) _
  ·cases hx
 ·intro x hx;cases hx
theorem enc_cut {s:Int} {t:ByteArray} (h:(encX s (cutX s t).1).2=true):(cutX s t).2=true:=by
 by_cases q:schOk s=true/\t.size<=groupN s
 ·unfold cutX;rw [if_pos q]
 ·have e:(cutX s t).1=[]:=by unfold cutX;rw [if_neg q]
  rw [e] at h
  rw [encX_no (fun k=>by have:=(sch_bounds k.1).1;have:=k.2.1;simp at this;omega)] at h
  cases h
theorem plc_mem9 {hs:List HM} {n x:Int} (h:x ∈ (plcX hs n).1):∃ y ∈ hs,y.id=x:=by
 unfold plcX at h
 split at h
 ·obtain ⟨p,hp,rfl⟩:=List.mem_map.1 h
  have q:=(ordP_perm hs).mem_iff.1 (List.mem_of_mem_take hp)
  unfold upPairs at q
  obtain ⟨y,hy,rfl⟩:=List.mem_map.1 q
  exact ⟨y,(List.mem_filter.1 hy).1,rfl⟩
 ·cases h
theorem plc_few {hs:List HM} {n:Nat}:(plcX hs (n:Nat)).1.length<=n:=by
 unfold plcX
 split
 ·simp only [List.length_map,List.length_take,Int.toNat_natCast];omega
 ·exact Nat.zero_le _
def fstI (hs:List HM) (x:Int):Nat:=hs.findIdx fun h=>h.id==x
theorem fst_lt {hs:List HM} {x:Int} (h:∃ y ∈ hs,y.id=x):fstI hs x<hs.length:=by
 obtain ⟨y,hy,e⟩:=h
 exact List.findIdx_lt_length_of_exists ⟨y,hy,by simp [e]⟩
theorem fst_same {hs cur:List HM} (h:cur.map HM.id=hs.map HM.id) (x:Int):fstI cur x=fstI hs x:=by
 have e:∀ L:List HM,fstI L x=(L.map HM.id).findIdx (· == x):=fun L=>by unfold fstI;rw [List.findIdx_map];rfl
 rw [e,e,h]
theorem fst_id {hs:List HM} {x:Int} (h:fstI hs x<hs.length):hs[fstI hs x].id=x:=by
 have:=List.findIdx_getElem (p:=fun h:HM=>h.id==x) (xs:=hs) (w:=h)
 exact eq_of_beq this
def uW (g:Int) (ts:List ByteArray) (i:Nat):UnM:=⟨g,(i:Int),ts.getD i ⟨#[]⟩,0⟩
def putAll (hs:List HM) (g:Int) (ts:List ByteArray) (ids:List Int):Nat->Option (List HM)
 | 0=>some hs
 | i+1=>match putAll hs g ts ids i with
  | none=>none
  | some cur=>if (putX (cur.getD (fstI hs (ids.getD i 0)) default) (uW g ts i)).2 then some (cur.set (fstI hs (ids.getD i 0)) (putX (cur.getD (fstI hs (ids.getD i 0)) default) (uW g ts i)).1) else none
theorem putAll_stop {hs:List HM} {g:Int} {ts:List ByteArray} {ids:List Int} {i:Nat} (h:putAll hs g ts ids i=none):∀ n,i<=n->putAll hs g ts ids n=none:=by
 intro n hn
 induction n with
 | zero=>rw [Nat.le_zero.1 hn] at h;exact h
 | succ n ih =>
  rcases Nat.lt_or_ge i (n+1) with k | k
  ·show (match putAll hs g ts ids n with | none=>none | some cur=>_)=none
   rw [ih (by omega)]
  ·have:i=n+1:=by omega
   rw [<-this];exact h
theorem putAll_next {hs cur:List HM} {g:Int} {ts:List ByteArray} {ids:List Int} {i:Nat} (h:putAll hs g ts ids i=some cur):putAll hs g ts ids (i+1)=if (putX (cur.getD (fstI hs (ids.getD i 0)) default) (uW g ts i)).2 then some (cur.set (fstI hs (ids.getD i 0)) (putX (cur.getD (fstI hs (ids.getD i 0)) default) (uW g ts i)).1) else none:=by
 show (match putAll hs g ts ids i with | none=>none | some cur=>_)=_
 rw [h]
theorem putAll_yes {hs cur:List HM} {g:Int} {ts:List ByteArray} {ids:List Int} {i k:Nat} {H P:HM} (h:putAll hs g ts ids i=some cur) (hk:fstI hs (ids.getD i 0)=k) (hl:cur[k]?=some H) (hp:putX H (uW g ts i)=(P,true)):putAll hs g ts ids (i+1)=some (cur.set k P):=by
 have e:cur.getD k default=H:=by rw [List.getD,hl];rfl
 rw [putAll_next h,hk,e,hp]
 rfl
theorem putAll_no {hs cur:List HM} {g:Int} {ts:List ByteArray} {ids:List Int} {i k:Nat} {H P:HM} (h:putAll hs g ts ids i=some cur) (hk:fstI hs (ids.getD i 0)=k) (hl:cur[k]?=some H) (hp:putX H (uW g ts i)=(P,false)):putAll hs g ts ids (i+1)=none:=by
 have e:cur.getD k default=H:=by rw [List.getD,hl];rfl
 rw [putAll_next h,hk,e,hp]
 rfl
def wgEnd (hs:List HM):Option (List HM)->List HM × Bool
 | some out=>(out,true)
 | none=>(hs,false)
theorem wgEnd_some (hs out:List HM):wgEnd hs (some out)=(out,true):=rfl
theorem wgEnd_none (hs:List HM):wgEnd hs none=(hs,false):=rfl
def writeX (hs:List HM) (s g:Int) (t:ByteArray):List HM × Bool:=
 if (encX s (cutX s t).1).2=true/\(plcX hs ((encX s (cutX s t).1).1.length:Nat)).2=true then
  wgEnd hs (putAll hs g (encX s (cutX s t).1).1 (plcX hs ((encX s (cutX s t).1).1.length:Nat)).1 (plcX hs ((encX s (cutX s t).1).1.length:Nat)).1.length)
 else (hs,false)
theorem put_id (h:HM) (u:UnM):(putX h u).1.id=h.id:=by unfold putX;split <;> rfl
theorem put_up9 (a b:UnM) (h:unLt a b=true):unLt b a=false:=by
 unfold unLt at *
 simp only [Bool.or_eq_true,Bool.and_eq_true,decide_eq_true_eq,beq_iff_eq,Bool.or_eq_false_iff,Bool.and_eq_false_iff,decide_eq_false_iff_not,beq_eq_false_iff_ne] at *
 omega
theorem two_filters {α:Type} (p q:α->Bool) (L:List α) (h:∀ x,p x=true->q x=false):(L.filter p).length+(L.filter q).length<=L.length:=by
 induction L with
 | nil=>simp
 | cons x L ih =>
  cases hp:p x <;> cases hq:q x <;> simp only [List.filter_cons,hp,hq,if_true,Bool.false_eq_true,if_false,List.length_cons] <;> first | omega | (have:=h x hp;rw [hq] at this;cases this)
theorem put_len1 (us:List UnM) (u:UnM):(putL us u).length<=us.length+1:=by
 unfold putL
 have:=two_filters (unLt · u) (unLt u ·) us (fun x hx=>put_up9 x u hx)
 simp only [List.length_append,List.length_singleton]
 omega
theorem put_mem9 {us:List UnM} {u x:UnM} (h:x ∈ putL us u):x ∈ us\/x=u:=by
 unfold putL at h
 simp only [List.mem_append,List.mem_filter,List.mem_singleton] at h
 rcases h with (h | h) | h
 ·exact .inl h.1
 ·exact .inr h
 ·exact .inl h.1
theorem sum_set9 (L:List Nat) (k x:Nat) (hk:k<L.length) (hx:x<=L[k]+1):(L.set k x).sum<=L.sum+1:=by
 induction L generalizing k with
 | nil=>simp at hk
 | cons a L ih =>
  cases k with
  | zero=>simp only [List.set_cons_zero,List.sum_cons,List.getElem_cons_zero] at *;omega
  | succ k =>
   have:=ih k (by simpa using hk) (by simpa using hx)
   simp only [List.set_cons_succ,List.sum_cons]
   omega
structure WgOk (hs cur:List HM) (i:Nat):Prop where
 ids:cur.map HM.id=hs.map HM.id
 fit:∀ h ∈ cur,UnFits h.us/\h.us.length<=1048576+i/\∀ u ∈ h.us,u.text.size<=1048576
 sum:(cur.map fun h=>h.us.length).sum<=(hs.map fun h=>h.us.length).sum+i
theorem WgOk.len {hs cur:List HM} {i:Nat} (h:WgOk hs cur i):cur.length=hs.length:=by have:=congrArg List.length h.ids;simpa using this
theorem WgOk.start {hs:List HM} (hf:HsFits hs) (hz:hsSum hs<=1048576):WgOk hs hs 0:=⟨rfl,fun h hh=>⟨(hf.2 h hh).1,by have:=hsSum_mem hh;omega,fun u hu=>by have:=hsSum_mem hh;have:=unSum_mem hu;omega⟩,Nat.le_refl _⟩
theorem WgOk.put {hs cur:List HM} {i k:Nat} (h:WgOk hs cur i) (hi:i<=6) (hk:k<cur.length) (u:UnM) (hu:UnFit u) (ht:u.text.size<=1048576):WgOk hs (cur.set k (putX cur[k] u).1) (i+1):=by
 have hm:=h.fit _ (List.getElem_mem hk)
 have hsu:UnFit (summed u):=⟨hu.1,hu.2.1,hu.2.2.1,by have:=sumN_low u.text;show -9223372036854775808<=sumN u.text/\sumN u.text<=9223372036854775807;omega⟩
 have hl:(putX cur[k] u).1.us.length<=cur[k].us.length+1:=by
  unfold putX
  split
  ·exact put_len1 _ _
  ·exact Nat.le_succ _
 refine ⟨?_,fun x hx=>?_,?_⟩
 ·rw [List.map_set,put_id,<-h.ids]
  have:(cur[k].id)=(cur.map HM.id)[k]'(by simpa using hk):=by simp
  rw [this,List.set_getElem_self]
 ·rcases List.mem_or_eq_of_mem_set hx with q | rfl
  ·have:=h.fit x q
   exact ⟨this.1,by omega,this.2.2⟩
  ·refine ⟨?_,by omega,?_⟩
   ·unfold putX
    split
    ·exact put_fits hm.1 hsu (by omega)
    ·exact hm.1
   ·unfold putX
    split
    ·intro y hy
     rcases put_mem9 hy with q | rfl
     ·exact hm.2.2 y q
     ·exact ht
    ·exact hm.2.2
 ·rw [List.map_set]
  have e:(cur.map fun h=>h.us.length)[k]'(by simpa using hk)=cur[k].us.length:=by simp
  have:=sum_set9 (cur.map fun h=>h.us.length) k (putX cur[k] u).1.us.length (by simpa using hk) (by rw [e];exact hl)
  have:=h.sum
  omega
theorem putAll_ok {hs:List HM} {g:Int} {ts:List ByteArray} {ids:List Int} (hf:HsFits hs) (hz:hsSum hs<=1048576) (hg:-9223372036854775808<=g/\g<=9223372036854775807) (ht:∀ x ∈ ts,x.size<=200) (hi:∀ x ∈ ids,∃ y ∈ hs,y.id=x) (h6:ids.length<=6):∀ (i:Nat) (cur:List HM),i<=ids.length->putAll hs g ts ids i=some cur->WgOk hs cur i:=by
 intro i
 induction i with
 | zero=>intro cur _ h;cases h;exact .start hf hz
 | succ i ih =>
  intro cur hl h
  cases q:putAll hs g ts ids i with
  | none=>rw [putAll_stop q (i+1) (by omega)] at h;cases h
  | some c =>
   have hc:=ih c (by omega) q
   have hk:fstI hs (ids.getD i 0)<c.length:=by
    rw [hc.len]
    refine fst_lt (hi _ ?_)
    rw [List.getD,List.getElem?_eq_getElem (by omega)]
    exact List.getElem_mem _
   rw [putAll_next q] at h
   split at h
   ·cases h
    have e2:c.getD (fstI hs (ids.getD i 0)) default=c[fstI hs (ids.getD i 0)]:=by rw [List.getD,List.getElem?_eq_getElem hk];rfl
    rw [e2]
    have hx:(uW g ts i).text.size<=1048576:=by
     show (ts.getD i ⟨#[]⟩).size<=_
     by_cases hlt:i<ts.length
     ·rw [List.getD,List.getElem?_eq_getElem hlt]
      have:=ht _ (List.getElem_mem hlt)
      show ts[i].size<=_
      omega
     ·rw [List.getD,List.getElem?_eq_none (by omega)];exact Nat.zero_le _
    exact hc.put (by omega) hk _ ⟨by show (uW g ts i).text.size<=_;omega,hg,⟨by show _<=(i:Int);omega,by show (i:Int)<=_;omega⟩,by show (-9223372036854775808:Int)<=0;omega,by show (0:Int)<=9223372036854775807;omega⟩ hx
   ·cases h
theorem write_ok {hs:List HM} {s g:Int} {t:ByteArray} (hf:HsFits hs) (hz:hsSum hs<=1048576) (hg:-9223372036854775808<=g/\g<=9223372036854775807):WgOk hs (writeX hs s g t).1 6:=by
 have hw:∀ {c:List HM} {i:Nat},i<=6->WgOk hs c i->WgOk hs c 6:=fun hi h=>⟨h.ids,fun x hx=>⟨(h.fit x hx).1,by have:=(h.fit x hx).2.1;omega,(h.fit x hx).2.2⟩,by have:=h.sum;omega⟩
 have h0:WgOk hs hs 6:=hw (Nat.zero_le _) (.start hf hz)
 unfold writeX
 split
 ·have hl:(plcX hs ((encX s (cutX s t).1).1.length:Nat)).1.length<=6:=Nat.le_trans plc_few (enc_len9 _ _)
  cases e:putAll hs g (encX s (cutX s t).1).1 (plcX hs ((encX s (cutX s t).1).1.length:Nat)).1 (plcX hs ((encX s (cutX s t).1).1.length:Nat)).1.length with
  | some out=>exact hw hl (putAll_ok hf hz hg (enc_size9 _ _) (fun x hx=>plc_mem9 hx) hl _ _ (Nat.le_refl _) e)
  | none=>exact h0
 ·exact h0
structure WR (w0 W:World) (a:Option Addr) (rs:List HoR):Prop where
 bel:Below w0.heap.size w0 W
 row:HsW W a rs w0.heap.size W.heap.size
theorem WR.below {w0 W W':World} {a:Option Addr} {rs:List HoR} (h:WR w0 W a rs) (hb:Below W.heap.size W W'):WR w0 W' a rs:=⟨h.bel.trans (hb.mono h.bel.size),(h.row.below hb).wide (Nat.le_refl _) hb.size⟩
theorem WR.base {w w0 W:World} {a:Option Addr} {rs:List HoR} (h:WR w0 W a rs) (hb:Below w.heap.size w w0):WR w W a rs:=⟨hb.trans (h.bel.mono hb.size),h.row.wide hb.size (Nat.le_refl _)⟩
theorem WR.host {w0 W W2:World} {a:Option Addr} {rs:List HoR} (h:WR w0 W a rs) (hb:Below W.heap.size W W2) (j:Nat) (hj:j<rs.length) (H:HM) (b:Option Addr) (cap:Nat) (hF:FRw W2 b (unS H.us) W.heap.size W2.heap.size) (hc:H.us.length<=cap) :
  ∃ g,a=some ⟨g,0,none⟩/\WR w0 (setW W2 g (j*3) (hC ⟨H,b,cap⟩)) a (rs.set j ⟨H,b,cap⟩):=by
 rcases h.row.2 with ⟨_,rfl⟩ | ⟨g,rfl,hg⟩
 ·simp at hj
 ·refine ⟨g,rfl,below_setW (h.bel.trans (hb.mono h.bel.size)) hg.glo _ _,fun r hr=>?_,.inr ⟨g,rfl,?_⟩⟩
  ·rcases List.mem_or_eq_of_mem_set hr with q | rfl
   ·exact h.row.1 r q
   ·exact hc
  ·have q:=hg.host hb j hj H b cap hF h.bel.size
   rw [setW_sz]
   exact q
theorem wr_of {hs:List HM} {w w':World} {e:Ending} (h:HsPost hs w e w'):∃ a c rs,e = .returned (.slice a rs.length c)/\hms rs=hs/\rs.length<=c/\WR w w' a rs:=by
 obtain ⟨va,cap,rs,rfl,e1,hw,hc,hb⟩:=h
 exact ⟨va,cap,rs,rfl,e1,hc,hb,hw⟩
def WgPost (R:List HM × Bool) (w:World) (e:Ending) (w':World):Prop:=∃ a c rs,e = .returned (.tuple #[.slice a rs.length c,.bool R.2])/\hms rs=R.1/\rs.length<=c/\WR w w' a rs
end Go.Proofs.YteaieagkjepgiaaGreatDoorT
/- . -/
namespace Go.Proofs.YteaieagkjepgiaaGreatDoorT
set_option maxRecDepth 100000
open Go.RowKit BigFrame
attribute [local go_sem ↓] Go.wp_at_zero Go.wp_at_succ
structure HApp (w W:World) (v:Value) (rs:List HoR):Prop where
 bel:Below w.heap.size w W
 own:W.ownsRow w.heap.size 45 3 v rs.length (hS rs)
 rows:∀ r ∈ rs,unS r.h.us=[]\/∃ b,r.loc=some ⟨b,0,none⟩/\w.heap.size<=b/\b<W.heap.size/\v.ownBlock ≠ some b/\WCells W b (unS r.h.us)
 apart:rs.Pairwise fun r s=>unS r.h.us ≠ []->unS s.h.us ≠ []->r.loc ≠ s.loc
 caps:∀ r ∈ rs,r.h.us.length<=r.cap
theorem HApp.new {w W:World} (hb:Below w.heap.size w W):HApp w (W.alloc (.cells #[] 45)) (.slice (some ⟨W.heap.size,0,none⟩) 0 0) []:=
 ⟨hb.trans (((Below.refl _ _).alloc (Nat.le_refl _) _).mono hb.size),World.ownsRow_made (e:=45) (size:=3) (base:=w.heap.size) W #[] 0 hb.size (by decide) (by simp),fun r hr=>(by cases hr),.nil,fun r hr=>(by cases hr)⟩
theorem HApp.below {w W W':World} {v:Value} {rs:List HoR} (h:HApp w W v rs) (hb:Below W.heap.size W W'):HApp w W' v rs:=
 ⟨h.bel.trans (hb.mono h.bel.size),h.own.kept (row:=none) ⟨hb.os,hb.tape,hb.output,hb.size,fun k hk _=>hb.block k hk⟩ (Classical.em _),fun r hr=>(h.rows r hr).imp id fun ⟨b,e,h1,h2,h3,h4⟩=>⟨b,e,h1,Nat.lt_of_lt_of_le h2 hb.size,h3,h4.below hb h4.1⟩,h.apart,h.caps⟩
theorem HApp.more {w W W2 Wa W':World} {v v':Value} {rs:List HoR} (h:HApp w W v rs) (H:HM) (a:Option Addr) (cap:Nat) (hb2:Below W.heap.size W W2) (hF:FRw W2 a (unS H.us) W.heap.size W2.heap.size) (hc:H.us.length<=cap) (hb:Below W2.heap.size W2 Wa)
  (ho:W'.ownsRow w.heap.size 45 3 v' (rs.length+1) (hS rs++hC ⟨H,a,cap⟩)) (hg:Wa.grownBy W' v.ownBlock) (hat:v'.ownBlock=v.ownBlock\/v'.ownBlock=some Wa.heap.size):HApp w W' v' (rs++[⟨H,a,cap⟩]):=by
 have k:=(h.below hb2).below hb
 have keep:∀ b X,WCells Wa b X->v.ownBlock ≠ some b->b<Wa.heap.size->WCells W' b X/\v'.ownBlock ≠ some b/\b<W'.heap.size:=fun b X hw hne hl=>by
  refine ⟨?_,?_,Nat.lt_of_lt_of_le hl hg.size⟩
  ·cases hv:v.ownBlock with
   | none =>
    rw [hv] at hg
    exact hw.turned (Turned.of_below ⟨hg.os,hg.tape,hg.output,hg.size,fun k hk=>hg.block k hk (by simp)⟩ Wa.heap.size Wa.heap.size) (.inl hl)
   | some q =>
    rw [hv] at hg hne
    have hqb:q ≠ b:=fun e=>hne (by rw [e])
    exact hw.turned (Turned.of_grown hg (Nat.le_refl q) (Nat.lt_succ_self q)) (by omega)
  ·rcases hat with e | e
   ·rw [e];exact hne
   ·rw [e];intro e2
    have:Wa.heap.size=b:=by simpa using e2
    omega
 refine ⟨k.bel.grown hg k.bel.size (fun q e=>(k.own.lt q e).1),?_,fun r hr=>?_,?_,fun r hr=>?_⟩
 ·rw [List.length_append]
  have e:hS (rs++[⟨H,a,cap⟩])=hS rs++hC ⟨H,a,cap⟩:=by show (rs++[_]).flatMap hC=_;rw [List.flatMap_append];simp [hS,NK.cells,HK]
  rw [e]
  exact ho
 ·rcases List.mem_append.1 hr with hr | hr
  ·rcases k.rows r hr with e | ⟨b,e,h1,h2,h3,h4⟩
   ·exact .inl e
   ·obtain ⟨q1,q2,q3⟩:=keep b _ h4 h3 h2
    exact .inr ⟨b,e,h1,q3,q2,q1⟩
  ·rw [List.mem_singleton] at hr
   subst hr
   rcases hF with ⟨_,e⟩ | ⟨b,e,h1,h2,h3⟩
   ·exact .inl e
   ·have hne:v.ownBlock ≠ some b:=fun e2=>by have:=(h.own.lt b e2).2;omega
    obtain ⟨q1,q2,q3⟩:=keep b _ (h3.below hb h3.1) hne (Nat.lt_of_lt_of_le h2 hb.size)
    exact .inr ⟨b,e,Nat.le_trans h.bel.size h1,q3,q2,q1⟩
 ·rw [List.pairwise_append]
  refine ⟨h.apart,List.pairwise_singleton _ _,fun r hr s hs h1 h2 e=>?_⟩
  rw [List.mem_singleton] at hs
  subst hs
  rcases h.rows r hr with q | ⟨b,e1,p1,p2,-,-⟩
  ·exact h1 q
  ·rcases hF with ⟨_,q⟩ | ⟨b',e2,p1',p2',-⟩
   ·exact h2 q
   ·rw [e1] at e
    dsimp only at e
    rw [e2] at e
    simp only [Option.some.injEq,Addr.mk.injEq,and_true] at e
    omega
 ·rcases List.mem_append.1 hr with hr | hr
  ·exact h.caps r hr
  ·rw [List.mem_singleton] at hr
   subst hr
   exact hc
theorem HApp.done {w W:World} {v:Value} {rs:List HoR} (h:HApp w W v rs):∃ va c,v = .slice va rs.length c/\rs.length<=c/\HsW W va rs w.heap.size W.heap.size:=by
 rcases h.own.2 with ⟨e,h0⟩ | ⟨g,c,cur,e,hb,hg,hc,_⟩
 ·obtain rfl:=List.length_eq_zero_iff.1 h0
  exact ⟨none,0,e,Nat.le_refl _,h.caps,.inl ⟨rfl,rfl⟩⟩
 ·have hlt:=(h.own.lt g (by rw [e];rfl)).2
  have hw:WCells W g (hS rs):=by
   have q:=h.own
   rw [e] at q
   exact own_wcells q
  refine ⟨_,c,e,hc,h.caps,.inr ⟨g,rfl,hw,hb,hlt,fun r hr=>?_,h.apart⟩⟩
  rcases h.rows r hr with q | ⟨b,e1,p1,p2,p3,p4⟩
  ·exact .inl q
  ·exact .inr ⟨b,e1,p1,p2,fun e2=>p3 (by rw [e,e2];rfl),p4⟩
theorem infoHost15:(Tw.prog.info? 45).map (fun i=>(i.zero,i.size,i.bytes))=some (some (.agg #[.int .i64 0,.bool false,.slice none 0 0]),3,40):=by kernel_rfl
theorem happ_any {w W:World} {v:Value} {rs:List HoR} (h:HApp w W v rs):∃ a c,v = .slice a rs.length c:=by
 obtain ⟨va,c,e,_⟩:=h.done
 exact ⟨va,c,e⟩
set_option maxRecDepth 100000 in
set_option maxHeartbeats 2000000 in
theorem specCopy15 (a:Option Addr) (rs:List HoR) (cap:Nat) (w:World) (hr:HsRow w a rs) (hl:rs.length<=1048576) (hp:∀ r ∈ rs,r.h.us.length<=1048576) :
  Calls Tw.prog 15 #[.slice a rs.length cap] w fun e w'=>HsPost (hms rs) w e w':=by
 obtain ⟨i0,hin,hz0,hz1,hz2⟩:=info_parts infoHost15
 obtain ⟨n,hn⟩:∃ n,n=rs.length:=⟨_,rfl⟩
 have HN:=Shut.mk hn
 have HR:=Shut.mk (And.intro hr hp)
 rw [<-hn]
 rw [<-hn] at hl
 have H0:=Shut.mk (HApp.new (Below.refl w.heap.size w))
 clear hr hp hn
 go_enter Tw.func15,Tw.ntmps15
 go_wp2_with fail
 go_loopw [3,4] (fun v i9 wr=>∃ (k:Nat),i9 = .int .i64 (k:Nat)/\k<=n/\Shut (∃ gs,gs.length=k/\hms gs=hms (rs.take k)/\HApp w wr v gs)) (fun _ i9 _=>n - (intOf i9).toNat)
 case atStart=>exact ⟨0,rfl,Nat.zero_le _,⟨[],rfl,by simp,H0.out⟩⟩
 case round =>
  clear H0
  obtain ⟨k,rfl,hk,HW⟩:=hrel
  obtain ⟨gs,hgl,hge,hgs⟩:=HW.out
  obtain ⟨av,cv,rfl⟩:=happ_any hgs
  have HG:=Shut.mk (And.intro hgl (And.intro hge hgs))
  rw [hgl]
  clear HW hge hgs
  by_cases hlt:k<n
  case neg =>
   obtain rfl:n=k:=by omega
   have HE:Shut (hms gs=hms rs):=⟨by rw [HG.out.2.1,List.take_of_length_le (Nat.le_of_eq HN.out.symm)]⟩
   clear hgl
   go_wp2_with fail
   go_ret
   obtain ⟨va,c,e,hc,hw⟩:=HG.out.2.2.done
   exact ⟨va,c,gs,by rw [HG.out.1] at e ⊢;rw [<-e];rfl,HE.out,hw,hc,HG.out.2.2.bel⟩
  have hkr:k<rs.length:=by rw [<-HN.out];exact hlt
  obtain ⟨b,off,r,rfl,hre,lb,hc⟩:=hs_at HR.out.1 HG.out.2.2.bel hkr
  obtain ⟨d0,d1,d2,d3⟩:=hc wr (Below.refl _ _)
  have hrl:r.h.us.length<=1048576:=by rw [hre];exact HR.out.2 _ (List.getElem_mem hkr)
  have HCP:=Shut.mk (specCopy14 r.h r.loc r.cap wr d3 hrl)
  have HNX:Shut (hms (rs.take (k+1))=hms (rs.take k)++[r.h]):=⟨by rw [List.take_succ_eq_append_getElem hkr,<-hre];simp [hms]⟩
  obtain ⟨⟨rid,rup,rus⟩,rl,rc⟩:=r
  dsimp only [hov] at *
  obtain ⟨m,hm⟩:∃ m,m=rus.length:=⟨_,rfl⟩
  unfold HoPost at HCP
  dsimp only [hov] at HCP
  rw [<-hm] at d2 HCP
  have HM:=Shut.mk hm
  have k0:(0:Int)<=(k:Int):=by omega
  have k1:(k:Int)<(n:Int):=by omega
  clear hc hre d3 hm hrl
  go_wp2_with (first
   | (go_at_call 36;refine HCP.out.mono ?_;rintro e w2 ⟨a2,c2,rfl,hF,hc2,hb2⟩;have HC2:=Shut.mk (And.intro hF (And.intro hc2 hb2));have hown:=(HG.out.2.2.below hb2).own;rw [HG.out.1] at hown;have hsz:=(HG.out.2.2.below hb2).bel.size;clear hF hc2 hb2)
   | (at_builtin;refine wpList_append_own_at _ rfl _ _ 24 rfl w.heap.size 45 i0 (.agg #[.int .i64 0,.bool false,.slice none 0 0]) 3 40 Tw.underlying24 hin hz0 hz1 hz2 rfl (by decide) _ _ _ rfl (hown.alloc _) ⟨w2.heap.size,0,none⟩ 1 1 (hC ⟨⟨rid,rup,rus⟩,a2,c2⟩) rfl rfl ?c1 ?c2 ?c3 ?c4 ?c5 ?_))
  case c1 =>
   intro j u hu
   have q:=((wcells_new w2 #[.int .i64 rid,.bool rup,.slice a2 m c2] 45).2 j u (by rw [HM.out];exact hu)).1
   cases j with
   | zero=>exact q
   | succ j=>simpa [Addr.add] using q
  case c2 =>
   intro u hu
   simp only [hC,List.mem_cons,List.not_mem_nil,or_false] at hu
   rcases hu with rfl | rfl | rfl <;> rfl
  case c3=>unfold maxLen;omega
  case c4=>omega
  case c5=>first | omega | (simp;omega)
  intro v9 w9 ho hg _ hat
  have HNW:=Shut.mk (HG.out.2.2.more ⟨rid,rup,rus⟩ a2 c2 HC2.out.2.2 HC2.out.1 (by rw [<-HM.out];exact HC2.out.2.1) ((Below.refl _ _).alloc (Nat.le_refl _) _) (by rw [HG.out.1];exact ho) (by rw [HG.out.1];exact hg) (by rw [HG.out.1];simpa using hat))
  clear ho hg hat hown hsz
  go_wp2_with fail
  go_roundw
  case rel=>exact ⟨k+1,by go_num,by omega,⟨gs++[⟨⟨rid,rup,rus⟩,a2,c2⟩],by rw [List.length_append,HG.out.1];rfl,by rw [HNX.out,<-HG.out.2.1];simp [hms],HNW.out⟩⟩
  case measure=>simp [intOf];omega
end Go.Proofs.YteaieagkjepgiaaGreatDoorT
